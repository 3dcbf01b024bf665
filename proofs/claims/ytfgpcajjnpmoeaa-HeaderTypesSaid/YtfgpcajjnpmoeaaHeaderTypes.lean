/-
  HeaderTypes: a media type is what stands ahead of its parameters, in small letters, and three of them need no leave; the law returns true for every number and both switches, and what was there has not turned. No condition.
-/
import Derived.BigQuiet
import Derived.Test.YtfgpcajjnpmoeaaProg
import Derived.Test.YtfgpcajjnpmoeaaKit
import Derived.Test.YtfgpcajjnpmoeaaLaw
import Derived.Test.YtfgpcajjnpmoeaaAsc4
import Derived.Test.YtfgpcajjnpmoeaaRow
import Derived.Test.YtfgpcajjnpmoeaaCod8
import Derived.Test.YtfgpcajjnpmoeaaFrm11
import Derived.Test.YtfgpcajjnpmoeaaHst1
import Derived.Test.YtfgpcajjnpmoeaaUrl9
import Derived.Test.YtfgpcajjnpmoeaaHdr0
import Derived.Test.YtfgpcajjnpmoeaaHdr2
import Derived.Test.YtfgpcajjnpmoeaaHdr6
import Derived.Test.YtfgpcajjnpmoeaaHdr16
import Derived.Test.YtfgpcajjnpmoeaaHdr17
import Derived.Test.YtfgpcajjnpmoeaaHdr18
namespace Go.Proofs.Ytfgpcajjnpmoeaa
open Go.ChangeShapes Go.WideShapes Go.ChangeAt Go.RowKit Go.Proofs
open Go.ChangeMaps (open_string shut_string)

theorem mv_len (r : Nat) (p g : Bool) : (mvL r p g).length ≤ (mkL r p g).length := by
  unfold mvL
  split
  · rw [List.length_drop]; omega
  · exact Nat.le_refl _

set_option maxHeartbeats 8000000 in
theorem headerTypes_tt {w : World} (k : Int) (hk : -9223372036854775808 ≤ k ∧ k ≤ 9223372036854775807) :
    Calls Try.prog 9 #[.int .i64 k, .bool true, .bool true] w fun e w' => e = .returned (.bool true) ∧ Below w.heap.size w w' := by
  have HA := Lib.hid (fun W => hawake_any W)
  have HR : Hid (∀ W, Calls Try.prog 27 #[.int .i64 k, .int .i64 8] W fun e w' => (∃ r : Nat, r < 8 ∧ e = .returned (.int .i64 r)) ∧ W = w') := Lib.hid (fun W => round_any k 8 W hk (by decide))
  have hal : ∀ j, (w.alloc (.cells #[.string ⟨#[116, 101, 120, 116, 47, 112, 108, 97, 105, 110]⟩, .string ⟨#[109, 117, 108, 116, 105, 112, 97, 114, 116, 47, 102, 111, 114, 109, 45, 100, 97, 116, 97]⟩, .string ⟨#[97, 112, 112, 108, 105, 99, 97, 116, 105, 111, 110, 47, 120, 45, 119, 119, 119, 45, 102, 111, 114, 109, 45, 117, 114, 108, 101, 110, 99, 111, 100, 101, 100]⟩, .string ⟨#[97, 112, 112, 108, 105, 99, 97, 116, 105, 111, 110, 47, 106, 115, 111, 110]⟩, .string ⟨#[116, 101, 120, 116, 47, 104, 116, 109, 108]⟩, .string ⟨#[116, 101, 120, 116]⟩, .string ⟨#[116, 101, 120, 116, 47]⟩, .string ⟨#[97, 47, 98, 47, 99]⟩] 9)).cell? ⟨w.heap.size, j, none⟩ = (#[.string ⟨#[116, 101, 120, 116, 47, 112, 108, 97, 105, 110]⟩, .string ⟨#[109, 117, 108, 116, 105, 112, 97, 114, 116, 47, 102, 111, 114, 109, 45, 100, 97, 116, 97]⟩, .string ⟨#[97, 112, 112, 108, 105, 99, 97, 116, 105, 111, 110, 47, 120, 45, 119, 119, 119, 45, 102, 111, 114, 109, 45, 117, 114, 108, 101, 110, 99, 111, 100, 101, 100]⟩, .string ⟨#[97, 112, 112, 108, 105, 99, 97, 116, 105, 111, 110, 47, 106, 115, 111, 110]⟩, .string ⟨#[116, 101, 120, 116, 47, 104, 116, 109, 108]⟩, .string ⟨#[116, 101, 120, 116]⟩, .string ⟨#[116, 101, 120, 116, 47]⟩, .string ⟨#[97, 47, 98, 47, 99]⟩] : Array Value)[j]? := fun j => alloc_cell w _ _ _ j
  have hbel : Below w.heap.size w (w.alloc (.cells #[.string ⟨#[116, 101, 120, 116, 47, 112, 108, 97, 105, 110]⟩, .string ⟨#[109, 117, 108, 116, 105, 112, 97, 114, 116, 47, 102, 111, 114, 109, 45, 100, 97, 116, 97]⟩, .string ⟨#[97, 112, 112, 108, 105, 99, 97, 116, 105, 111, 110, 47, 120, 45, 119, 119, 119, 45, 102, 111, 114, 109, 45, 117, 114, 108, 101, 110, 99, 111, 100, 101, 100]⟩, .string ⟨#[97, 112, 112, 108, 105, 99, 97, 116, 105, 111, 110, 47, 106, 115, 111, 110]⟩, .string ⟨#[116, 101, 120, 116, 47, 104, 116, 109, 108]⟩, .string ⟨#[116, 101, 120, 116]⟩, .string ⟨#[116, 101, 120, 116, 47]⟩, .string ⟨#[97, 47, 98, 47, 99]⟩] 9)) := below_more (Below.refl _ _) _
  have hsz0 : (w.alloc (.cells #[.string ⟨#[116, 101, 120, 116, 47, 112, 108, 97, 105, 110]⟩, .string ⟨#[109, 117, 108, 116, 105, 112, 97, 114, 116, 47, 102, 111, 114, 109, 45, 100, 97, 116, 97]⟩, .string ⟨#[97, 112, 112, 108, 105, 99, 97, 116, 105, 111, 110, 47, 120, 45, 119, 119, 119, 45, 102, 111, 114, 109, 45, 117, 114, 108, 101, 110, 99, 111, 100, 101, 100]⟩, .string ⟨#[97, 112, 112, 108, 105, 99, 97, 116, 105, 111, 110, 47, 106, 115, 111, 110]⟩, .string ⟨#[116, 101, 120, 116, 47, 104, 116, 109, 108]⟩, .string ⟨#[116, 101, 120, 116]⟩, .string ⟨#[116, 101, 120, 116, 47]⟩, .string ⟨#[97, 47, 98, 47, 99]⟩] 9)).heap.size = w.heap.size + 1 := Array.size_push ..
  have HAL : Hid (∀ r, r < 8 → (w.alloc (.cells #[.string ⟨#[116, 101, 120, 116, 47, 112, 108, 97, 105, 110]⟩, .string ⟨#[109, 117, 108, 116, 105, 112, 97, 114, 116, 47, 102, 111, 114, 109, 45, 100, 97, 116, 97]⟩, .string ⟨#[97, 112, 112, 108, 105, 99, 97, 116, 105, 111, 110, 47, 120, 45, 119, 119, 119, 45, 102, 111, 114, 109, 45, 117, 114, 108, 101, 110, 99, 111, 100, 101, 100]⟩, .string ⟨#[97, 112, 112, 108, 105, 99, 97, 116, 105, 111, 110, 47, 106, 115, 111, 110]⟩, .string ⟨#[116, 101, 120, 116, 47, 104, 116, 109, 108]⟩, .string ⟨#[116, 101, 120, 116]⟩, .string ⟨#[116, 101, 120, 116, 47]⟩, .string ⟨#[97, 47, 98, 47, 99]⟩] 9)).cell? ⟨w.heap.size, r, none⟩ = some (strL (litsL.getD r []))) := Lib.hid (fun r hr => by
    rw [hal]
    match r, hr with
    | 0, _ => rfl
    | 1, _ => rfl
    | 2, _ => rfl
    | 3, _ => rfl
    | 4, _ => rfl
    | 5, _ => rfl
    | 6, _ => rfl
    | 7, _ => rfl)
  have HBEL := Lib.hid hbel
  clear hal hbel hsz0 hk
  go_enter Try.func9, Try.ntmps9
  go_wp2_with fail
  refine (HR.out _).mono ?_
  rintro e w2 ⟨⟨r, hr, rfl⟩, rfl⟩
  obtain ⟨w1, hw1⟩ : ∃ w1, w1 = w.alloc (.cells #[.string ⟨#[116, 101, 120, 116, 47, 112, 108, 97, 105, 110]⟩, .string ⟨#[109, 117, 108, 116, 105, 112, 97, 114, 116, 47, 102, 111, 114, 109, 45, 100, 97, 116, 97]⟩, .string ⟨#[97, 112, 112, 108, 105, 99, 97, 116, 105, 111, 110, 47, 120, 45, 119, 119, 119, 45, 102, 111, 114, 109, 45, 117, 114, 108, 101, 110, 99, 111, 100, 101, 100]⟩, .string ⟨#[97, 112, 112, 108, 105, 99, 97, 116, 105, 111, 110, 47, 106, 115, 111, 110]⟩, .string ⟨#[116, 101, 120, 116, 47, 104, 116, 109, 108]⟩, .string ⟨#[116, 101, 120, 116]⟩, .string ⟨#[116, 101, 120, 116, 47]⟩, .string ⟨#[97, 47, 98, 47, 99]⟩] 9) := ⟨_, rfl⟩
  rw [← hw1] at HAL HBEL ⊢
  obtain ⟨Z, hZ⟩ : ∃ Z : ByteArray, Z = ⟨(litsL.getD r []).toArray⟩ := ⟨_, rfl⟩
  have hc1 : w1.cell? ⟨w.heap.size, r, none⟩ = some (.string Z) := by rw [HAL.out r hr, hZ]; rfl
  have HZ : Hid (Z.data.toList = litsL.getD r []) := Lib.hid (by rw [hZ])
  obtain ⟨g0, hg0⟩ : ∃ g0, g0 = w.heap.size := ⟨_, rfl⟩
  rw [← hg0] at hc1 ⊢
  have hri : (r : Int) < 8 := by omega
  have HT := Lib.hid (typ_facts r hr true true)
  have hZs : Z.size ≤ 60 := by
    have h := (typ_facts r hr false false).2.2.2
    unfold mkL at h
    rw [hZ, mk_size]
    simpa using h
  have HEG : Hid (∀ (T : ByteArray) (p g : Bool), T.data.toList = mkL r p g → ∀ W, Calls Try.prog 18 #[.string T] W fun e w' => e = .returned (.tuple #[strL (essL (mkL r p g)), .bool (essB (mkL r p g))]) ∧ Below W.heap.size W w') := Lib.hid (fun T p g hT W => by rw [← hT]; exact ess_any T (by have h := (typ_facts r hr p g).2.2.2; rw [← hT, size_data] at h; omega) W)
  have HSG : Hid (∀ (T : ByteArray) (p g : Bool), T.data.toList = mvL r p g → ∀ W, Calls Try.prog 22 #[.agg #[.string ⟨#[99, 111, 110, 116, 101, 110, 116, 45, 84, 89, 80, 69]⟩, .string T]] W fun e w' => e = .returned (.bool (simB ctnL (mvL r p g))) ∧ Below W.heap.size W w') := Lib.hid (fun T p g hT W => by rw [← hT]; exact simple_any ⟨#[99, 111, 110, 116, 101, 110, 116, 45, 84, 89, 80, 69]⟩ T (by decide) (by have h := (typ_facts r hr p g).2.2.2; have h2 : T.size ≤ (mkL r p g).length := (by rw [← size_data, hT]; exact mv_len r p g); omega) W)
  clear hw1 hZ hg0 HR HAL
  have HU := Lib.hid (upper_any Z (by omega) w1)
  obtain ⟨U, hU⟩ : ∃ U : ByteArray, U = ⟨(capL Z.data.toList).toArray⟩ := ⟨_, rfl⟩
  have hUs : U.size ≤ 60 := by rw [hU, mk_size]; unfold capL; rw [List.length_map, size_data]; exact hZs
  have HUL : Hid (U.data.toList = capL Z.data.toList) := Lib.hid (by rw [hU])
  go_wp2_with fail
  refine HU.out.mono ?_
  rintro e w3 ⟨⟨c, rfl, hbuf⟩, hb3⟩
  have B3 := Lib.hid (HBEL.out.trans (hb3.mono HBEL.out.size))
  have hc3 := cell_stays hc1 hb3
  have kc := run_convert_buf (P := Try.prog) 39 5 9 Try.underlying39 Try.underlying5 Try.underlying9 (n := Z.size) (cap := c) hbuf (by unfold capL; rw [List.length_map, size_data])
  rw [← hU] at kc
  clear hb3 hbuf hU hc1
  have hS20 : (((⟨#[9]⟩ : ByteArray) ++ U) ++ (⟨#[32, 59, 32, 99, 104, 97, 114, 115, 101, 116, 61, 117, 116, 102, 45, 56]⟩ : ByteArray)).data.toList = mkL r true true := by
    unfold mkL
    rw [if_pos rfl, if_pos rfl, happ, happ, HUL.out, HZ.out]
    rfl
  obtain ⟨S2, hS2e⟩ : ∃ S2 : ByteArray, S2 = (((⟨#[9]⟩ : ByteArray) ++ U) ++ (⟨#[32, 59, 32, 99, 104, 97, 114, 115, 101, 116, 61, 117, 116, 102, 45, 56]⟩ : ByteArray)) := ⟨_, rfl⟩
  have hS2 : S2.data.toList = mkL r true true := by rw [hS2e]; exact hS20
  clear hS20
  have hS2s : S2.size ≤ 200 := by have h := HT.out.2.2.2; rw [← hS2, size_data] at h; omega
  have HE := Lib.hid (HEG.out S2 true true hS2)
  have hV2 : (S2.extract 1 S2.size).data.toList = mvL r true true := by
    rw [extract_tail, hS2]
    rfl
  have HSM := Lib.hid (HSG.out (S2.extract 1 S2.size) true true hV2)
  have h1n : 1 ≤ S2.size := by rw [hS2e, ByteArray.size_append, ByteArray.size_append]; show 1 ≤ 1 + U.size + 16; omega
  have h1s : (1 : Int) ≤ (S2.size : Int) := by omega
  have hsz1 : ((⟨#[9]⟩ : ByteArray) ++ U).size ≤ 100 := by rw [ByteArray.size_append]; show 1 + U.size ≤ _; omega
  have hess := HT.out.1
  have hesl := HT.out.2.1
  have hsim := HT.out.2.2.1
  rcases (by omega : r < 3 ∨ (¬ r < 3 ∧ r < 5) ∨ ¬ r < 5) with h3 | ⟨h3, h5⟩ | h5
  · have h5 : r < 5 := by omega
    rw [decide_eq_true h5] at hess
    rw [decide_eq_true h3] at hsim
    rw [hess] at HE
    rw [hsim] at HSM
    have HZV : Hid (strL (essL (mkL r true true)) = .string Z) := Lib.hid (by rw [hesl h5]; exact strL_of HZ.out)
    rw [HZV.out] at HE
    have hzz : (Z.toList == Z.toList) = true := beq_iff_eq.2 rfl
    have h5i : (r : Int) < 5 := by omega
    have h3i : (r : Int) < 3 := by omega
    clear hess hesl hsim h3 h5 hS2 hV2 hr
    go_wp2_with fail
    rw [← hS2e]
    clear hS2e
    refine (HE.out _).mono ?_
    rintro e w4 ⟨rfl, hb4⟩
    have B4 := Lib.hid (B3.out.trans (hb4.mono B3.out.size))
    have hc4 := cell_stays hc3 hb4
    clear hb4 hc3
    go_wp2_with fail
    refine (HSM.out _).mono ?_
    rintro e w5 ⟨rfl, hb5⟩
    have B5 := Lib.hid (B4.out.trans (hb5.mono B4.out.size))
    clear hb5
    go_wp2_with fail
    refine (HA.out _).mono ?_
    rintro e w6 ⟨rfl, hb6⟩
    have B6 := Lib.hid (B5.out.trans (hb6.mono B5.out.size))
    clear hb6
    go_wp2_with fail
    go_ret
    exact ⟨rfl, B6.out⟩
  · rw [decide_eq_true h5] at hess
    rw [decide_eq_false h3] at hsim
    rw [hess] at HE
    rw [hsim] at HSM
    have HZV : Hid (strL (essL (mkL r true true)) = .string Z) := Lib.hid (by rw [hesl h5]; exact strL_of HZ.out)
    rw [HZV.out] at HE
    have hzz : (Z.toList == Z.toList) = true := beq_iff_eq.2 rfl
    have h5i : (r : Int) < 5 := by omega
    have h3i : ((r : Int) < 3) = False := eq_false (by omega)
    clear hess hesl hsim h3 h5 hS2 hV2 hr
    go_wp2_with fail
    rw [← hS2e]
    clear hS2e
    refine (HE.out _).mono ?_
    rintro e w4 ⟨rfl, hb4⟩
    have B4 := Lib.hid (B3.out.trans (hb4.mono B3.out.size))
    have hc4 := cell_stays hc3 hb4
    clear hb4 hc3
    go_wp2_with fail
    refine (HSM.out _).mono ?_
    rintro e w5 ⟨rfl, hb5⟩
    have B5 := Lib.hid (B4.out.trans (hb5.mono B4.out.size))
    clear hb5
    go_wp2_with fail
    refine (HA.out _).mono ?_
    rintro e w6 ⟨rfl, hb6⟩
    have B6 := Lib.hid (B5.out.trans (hb6.mono B5.out.size))
    clear hb6
    go_wp2_with fail
    go_ret
    exact ⟨rfl, B6.out⟩
  · have h3 : ¬ r < 3 := by omega
    rw [decide_eq_false h5] at hess
    rw [decide_eq_false h3] at hsim
    rw [hess] at HE
    rw [hsim] at HSM
    obtain ⟨E, hE⟩ : ∃ E : ByteArray, strL (essL (mkL r true true)) = .string E := ⟨_, rfl⟩
    rw [hE] at HE
    have h5i : ((r : Int) < 5) = False := eq_false (by omega)
    have h3i : ((r : Int) < 3) = False := eq_false (by omega)
    clear hess hesl hsim h3 h5 hS2 hV2 hr hE
    go_wp2_with fail
    rw [← hS2e]
    clear hS2e
    refine (HE.out _).mono ?_
    rintro e w4 ⟨rfl, hb4⟩
    have B4 := Lib.hid (B3.out.trans (hb4.mono B3.out.size))
    have hc4 := cell_stays hc3 hb4
    clear hb4 hc3
    go_wp2_with fail
    refine (HSM.out _).mono ?_
    rintro e w5 ⟨rfl, hb5⟩
    have B5 := Lib.hid (B4.out.trans (hb5.mono B4.out.size))
    clear hb5
    go_wp2_with fail
    refine (HA.out _).mono ?_
    rintro e w6 ⟨rfl, hb6⟩
    have B6 := Lib.hid (B5.out.trans (hb6.mono B5.out.size))
    clear hb6
    go_wp2_with fail
    go_ret
    exact ⟨rfl, B6.out⟩

set_option maxHeartbeats 8000000 in
theorem headerTypes_tf {w : World} (k : Int) (hk : -9223372036854775808 ≤ k ∧ k ≤ 9223372036854775807) :
    Calls Try.prog 9 #[.int .i64 k, .bool true, .bool false] w fun e w' => e = .returned (.bool true) ∧ Below w.heap.size w w' := by
  have HA := Lib.hid (fun W => hawake_any W)
  have HR : Hid (∀ W, Calls Try.prog 27 #[.int .i64 k, .int .i64 8] W fun e w' => (∃ r : Nat, r < 8 ∧ e = .returned (.int .i64 r)) ∧ W = w') := Lib.hid (fun W => round_any k 8 W hk (by decide))
  have hal : ∀ j, (w.alloc (.cells #[.string ⟨#[116, 101, 120, 116, 47, 112, 108, 97, 105, 110]⟩, .string ⟨#[109, 117, 108, 116, 105, 112, 97, 114, 116, 47, 102, 111, 114, 109, 45, 100, 97, 116, 97]⟩, .string ⟨#[97, 112, 112, 108, 105, 99, 97, 116, 105, 111, 110, 47, 120, 45, 119, 119, 119, 45, 102, 111, 114, 109, 45, 117, 114, 108, 101, 110, 99, 111, 100, 101, 100]⟩, .string ⟨#[97, 112, 112, 108, 105, 99, 97, 116, 105, 111, 110, 47, 106, 115, 111, 110]⟩, .string ⟨#[116, 101, 120, 116, 47, 104, 116, 109, 108]⟩, .string ⟨#[116, 101, 120, 116]⟩, .string ⟨#[116, 101, 120, 116, 47]⟩, .string ⟨#[97, 47, 98, 47, 99]⟩] 9)).cell? ⟨w.heap.size, j, none⟩ = (#[.string ⟨#[116, 101, 120, 116, 47, 112, 108, 97, 105, 110]⟩, .string ⟨#[109, 117, 108, 116, 105, 112, 97, 114, 116, 47, 102, 111, 114, 109, 45, 100, 97, 116, 97]⟩, .string ⟨#[97, 112, 112, 108, 105, 99, 97, 116, 105, 111, 110, 47, 120, 45, 119, 119, 119, 45, 102, 111, 114, 109, 45, 117, 114, 108, 101, 110, 99, 111, 100, 101, 100]⟩, .string ⟨#[97, 112, 112, 108, 105, 99, 97, 116, 105, 111, 110, 47, 106, 115, 111, 110]⟩, .string ⟨#[116, 101, 120, 116, 47, 104, 116, 109, 108]⟩, .string ⟨#[116, 101, 120, 116]⟩, .string ⟨#[116, 101, 120, 116, 47]⟩, .string ⟨#[97, 47, 98, 47, 99]⟩] : Array Value)[j]? := fun j => alloc_cell w _ _ _ j
  have hbel : Below w.heap.size w (w.alloc (.cells #[.string ⟨#[116, 101, 120, 116, 47, 112, 108, 97, 105, 110]⟩, .string ⟨#[109, 117, 108, 116, 105, 112, 97, 114, 116, 47, 102, 111, 114, 109, 45, 100, 97, 116, 97]⟩, .string ⟨#[97, 112, 112, 108, 105, 99, 97, 116, 105, 111, 110, 47, 120, 45, 119, 119, 119, 45, 102, 111, 114, 109, 45, 117, 114, 108, 101, 110, 99, 111, 100, 101, 100]⟩, .string ⟨#[97, 112, 112, 108, 105, 99, 97, 116, 105, 111, 110, 47, 106, 115, 111, 110]⟩, .string ⟨#[116, 101, 120, 116, 47, 104, 116, 109, 108]⟩, .string ⟨#[116, 101, 120, 116]⟩, .string ⟨#[116, 101, 120, 116, 47]⟩, .string ⟨#[97, 47, 98, 47, 99]⟩] 9)) := below_more (Below.refl _ _) _
  have hsz0 : (w.alloc (.cells #[.string ⟨#[116, 101, 120, 116, 47, 112, 108, 97, 105, 110]⟩, .string ⟨#[109, 117, 108, 116, 105, 112, 97, 114, 116, 47, 102, 111, 114, 109, 45, 100, 97, 116, 97]⟩, .string ⟨#[97, 112, 112, 108, 105, 99, 97, 116, 105, 111, 110, 47, 120, 45, 119, 119, 119, 45, 102, 111, 114, 109, 45, 117, 114, 108, 101, 110, 99, 111, 100, 101, 100]⟩, .string ⟨#[97, 112, 112, 108, 105, 99, 97, 116, 105, 111, 110, 47, 106, 115, 111, 110]⟩, .string ⟨#[116, 101, 120, 116, 47, 104, 116, 109, 108]⟩, .string ⟨#[116, 101, 120, 116]⟩, .string ⟨#[116, 101, 120, 116, 47]⟩, .string ⟨#[97, 47, 98, 47, 99]⟩] 9)).heap.size = w.heap.size + 1 := Array.size_push ..
  have HAL : Hid (∀ r, r < 8 → (w.alloc (.cells #[.string ⟨#[116, 101, 120, 116, 47, 112, 108, 97, 105, 110]⟩, .string ⟨#[109, 117, 108, 116, 105, 112, 97, 114, 116, 47, 102, 111, 114, 109, 45, 100, 97, 116, 97]⟩, .string ⟨#[97, 112, 112, 108, 105, 99, 97, 116, 105, 111, 110, 47, 120, 45, 119, 119, 119, 45, 102, 111, 114, 109, 45, 117, 114, 108, 101, 110, 99, 111, 100, 101, 100]⟩, .string ⟨#[97, 112, 112, 108, 105, 99, 97, 116, 105, 111, 110, 47, 106, 115, 111, 110]⟩, .string ⟨#[116, 101, 120, 116, 47, 104, 116, 109, 108]⟩, .string ⟨#[116, 101, 120, 116]⟩, .string ⟨#[116, 101, 120, 116, 47]⟩, .string ⟨#[97, 47, 98, 47, 99]⟩] 9)).cell? ⟨w.heap.size, r, none⟩ = some (strL (litsL.getD r []))) := Lib.hid (fun r hr => by
    rw [hal]
    match r, hr with
    | 0, _ => rfl
    | 1, _ => rfl
    | 2, _ => rfl
    | 3, _ => rfl
    | 4, _ => rfl
    | 5, _ => rfl
    | 6, _ => rfl
    | 7, _ => rfl)
  have HBEL := Lib.hid hbel
  clear hal hbel hsz0 hk
  go_enter Try.func9, Try.ntmps9
  go_wp2_with fail
  refine (HR.out _).mono ?_
  rintro e w2 ⟨⟨r, hr, rfl⟩, rfl⟩
  obtain ⟨w1, hw1⟩ : ∃ w1, w1 = w.alloc (.cells #[.string ⟨#[116, 101, 120, 116, 47, 112, 108, 97, 105, 110]⟩, .string ⟨#[109, 117, 108, 116, 105, 112, 97, 114, 116, 47, 102, 111, 114, 109, 45, 100, 97, 116, 97]⟩, .string ⟨#[97, 112, 112, 108, 105, 99, 97, 116, 105, 111, 110, 47, 120, 45, 119, 119, 119, 45, 102, 111, 114, 109, 45, 117, 114, 108, 101, 110, 99, 111, 100, 101, 100]⟩, .string ⟨#[97, 112, 112, 108, 105, 99, 97, 116, 105, 111, 110, 47, 106, 115, 111, 110]⟩, .string ⟨#[116, 101, 120, 116, 47, 104, 116, 109, 108]⟩, .string ⟨#[116, 101, 120, 116]⟩, .string ⟨#[116, 101, 120, 116, 47]⟩, .string ⟨#[97, 47, 98, 47, 99]⟩] 9) := ⟨_, rfl⟩
  rw [← hw1] at HAL HBEL ⊢
  obtain ⟨Z, hZ⟩ : ∃ Z : ByteArray, Z = ⟨(litsL.getD r []).toArray⟩ := ⟨_, rfl⟩
  have hc1 : w1.cell? ⟨w.heap.size, r, none⟩ = some (.string Z) := by rw [HAL.out r hr, hZ]; rfl
  have HZ : Hid (Z.data.toList = litsL.getD r []) := Lib.hid (by rw [hZ])
  obtain ⟨g0, hg0⟩ : ∃ g0, g0 = w.heap.size := ⟨_, rfl⟩
  rw [← hg0] at hc1 ⊢
  have hri : (r : Int) < 8 := by omega
  have HT := Lib.hid (typ_facts r hr true false)
  have hZs : Z.size ≤ 60 := by
    have h := (typ_facts r hr false false).2.2.2
    unfold mkL at h
    rw [hZ, mk_size]
    simpa using h
  have HEG : Hid (∀ (T : ByteArray) (p g : Bool), T.data.toList = mkL r p g → ∀ W, Calls Try.prog 18 #[.string T] W fun e w' => e = .returned (.tuple #[strL (essL (mkL r p g)), .bool (essB (mkL r p g))]) ∧ Below W.heap.size W w') := Lib.hid (fun T p g hT W => by rw [← hT]; exact ess_any T (by have h := (typ_facts r hr p g).2.2.2; rw [← hT, size_data] at h; omega) W)
  have HSG : Hid (∀ (T : ByteArray) (p g : Bool), T.data.toList = mvL r p g → ∀ W, Calls Try.prog 22 #[.agg #[.string ⟨#[99, 111, 110, 116, 101, 110, 116, 45, 84, 89, 80, 69]⟩, .string T]] W fun e w' => e = .returned (.bool (simB ctnL (mvL r p g))) ∧ Below W.heap.size W w') := Lib.hid (fun T p g hT W => by rw [← hT]; exact simple_any ⟨#[99, 111, 110, 116, 101, 110, 116, 45, 84, 89, 80, 69]⟩ T (by decide) (by have h := (typ_facts r hr p g).2.2.2; have h2 : T.size ≤ (mkL r p g).length := (by rw [← size_data, hT]; exact mv_len r p g); omega) W)
  clear hw1 hZ hg0 HR HAL
  have hS20 : (Z ++ (⟨#[32, 59, 32, 99, 104, 97, 114, 115, 101, 116, 61, 117, 116, 102, 45, 56]⟩ : ByteArray)).data.toList = mkL r true false := by
    unfold mkL
    rw [if_neg (by decide), if_pos rfl, happ, HZ.out]
    rfl
  obtain ⟨S2, hS2e⟩ : ∃ S2 : ByteArray, S2 = (Z ++ (⟨#[32, 59, 32, 99, 104, 97, 114, 115, 101, 116, 61, 117, 116, 102, 45, 56]⟩ : ByteArray)) := ⟨_, rfl⟩
  have hS2 : S2.data.toList = mkL r true false := by rw [hS2e]; exact hS20
  clear hS20
  have hS2s : S2.size ≤ 200 := by have h := HT.out.2.2.2; rw [← hS2, size_data] at h; omega
  have HE := Lib.hid (HEG.out S2 true false hS2)
  have hV2 : S2.data.toList = mvL r true false := hS2
  have HSM := Lib.hid (HSG.out S2 true false hV2)
  have hsz1 : Z.size ≤ 100 := by omega
  have hess := HT.out.1
  have hesl := HT.out.2.1
  have hsim := HT.out.2.2.1
  rcases (by omega : r < 3 ∨ (¬ r < 3 ∧ r < 5) ∨ ¬ r < 5) with h3 | ⟨h3, h5⟩ | h5
  · have h5 : r < 5 := by omega
    rw [decide_eq_true h5] at hess
    rw [decide_eq_true h3] at hsim
    rw [hess] at HE
    rw [hsim] at HSM
    have HZV : Hid (strL (essL (mkL r true false)) = .string Z) := Lib.hid (by rw [hesl h5]; exact strL_of HZ.out)
    rw [HZV.out] at HE
    have hzz : (Z.toList == Z.toList) = true := beq_iff_eq.2 rfl
    have h5i : (r : Int) < 5 := by omega
    have h3i : (r : Int) < 3 := by omega
    clear hess hesl hsim h3 h5 hS2 hV2 hr
    go_wp2_with fail
    rw [← hS2e]
    clear hS2e
    refine (HE.out _).mono ?_
    rintro e w4 ⟨rfl, hb4⟩
    have B4 := Lib.hid (HBEL.out.trans (hb4.mono HBEL.out.size))
    have hc4 := cell_stays hc1 hb4
    clear hb4 hc1
    go_wp2_with fail
    refine (HSM.out _).mono ?_
    rintro e w5 ⟨rfl, hb5⟩
    have B5 := Lib.hid (B4.out.trans (hb5.mono B4.out.size))
    clear hb5
    go_wp2_with fail
    refine (HA.out _).mono ?_
    rintro e w6 ⟨rfl, hb6⟩
    have B6 := Lib.hid (B5.out.trans (hb6.mono B5.out.size))
    clear hb6
    go_wp2_with fail
    go_ret
    exact ⟨rfl, B6.out⟩
  · rw [decide_eq_true h5] at hess
    rw [decide_eq_false h3] at hsim
    rw [hess] at HE
    rw [hsim] at HSM
    have HZV : Hid (strL (essL (mkL r true false)) = .string Z) := Lib.hid (by rw [hesl h5]; exact strL_of HZ.out)
    rw [HZV.out] at HE
    have hzz : (Z.toList == Z.toList) = true := beq_iff_eq.2 rfl
    have h5i : (r : Int) < 5 := by omega
    have h3i : ((r : Int) < 3) = False := eq_false (by omega)
    clear hess hesl hsim h3 h5 hS2 hV2 hr
    go_wp2_with fail
    rw [← hS2e]
    clear hS2e
    refine (HE.out _).mono ?_
    rintro e w4 ⟨rfl, hb4⟩
    have B4 := Lib.hid (HBEL.out.trans (hb4.mono HBEL.out.size))
    have hc4 := cell_stays hc1 hb4
    clear hb4 hc1
    go_wp2_with fail
    refine (HSM.out _).mono ?_
    rintro e w5 ⟨rfl, hb5⟩
    have B5 := Lib.hid (B4.out.trans (hb5.mono B4.out.size))
    clear hb5
    go_wp2_with fail
    refine (HA.out _).mono ?_
    rintro e w6 ⟨rfl, hb6⟩
    have B6 := Lib.hid (B5.out.trans (hb6.mono B5.out.size))
    clear hb6
    go_wp2_with fail
    go_ret
    exact ⟨rfl, B6.out⟩
  · have h3 : ¬ r < 3 := by omega
    rw [decide_eq_false h5] at hess
    rw [decide_eq_false h3] at hsim
    rw [hess] at HE
    rw [hsim] at HSM
    obtain ⟨E, hE⟩ : ∃ E : ByteArray, strL (essL (mkL r true false)) = .string E := ⟨_, rfl⟩
    rw [hE] at HE
    have h5i : ((r : Int) < 5) = False := eq_false (by omega)
    have h3i : ((r : Int) < 3) = False := eq_false (by omega)
    clear hess hesl hsim h3 h5 hS2 hV2 hr hE
    go_wp2_with fail
    rw [← hS2e]
    clear hS2e
    refine (HE.out _).mono ?_
    rintro e w4 ⟨rfl, hb4⟩
    have B4 := Lib.hid (HBEL.out.trans (hb4.mono HBEL.out.size))
    have hc4 := cell_stays hc1 hb4
    clear hb4 hc1
    go_wp2_with fail
    refine (HSM.out _).mono ?_
    rintro e w5 ⟨rfl, hb5⟩
    have B5 := Lib.hid (B4.out.trans (hb5.mono B4.out.size))
    clear hb5
    go_wp2_with fail
    refine (HA.out _).mono ?_
    rintro e w6 ⟨rfl, hb6⟩
    have B6 := Lib.hid (B5.out.trans (hb6.mono B5.out.size))
    clear hb6
    go_wp2_with fail
    go_ret
    exact ⟨rfl, B6.out⟩

set_option maxHeartbeats 8000000 in
theorem headerTypes_ft {w : World} (k : Int) (hk : -9223372036854775808 ≤ k ∧ k ≤ 9223372036854775807) :
    Calls Try.prog 9 #[.int .i64 k, .bool false, .bool true] w fun e w' => e = .returned (.bool true) ∧ Below w.heap.size w w' := by
  have HA := Lib.hid (fun W => hawake_any W)
  have HR : Hid (∀ W, Calls Try.prog 27 #[.int .i64 k, .int .i64 8] W fun e w' => (∃ r : Nat, r < 8 ∧ e = .returned (.int .i64 r)) ∧ W = w') := Lib.hid (fun W => round_any k 8 W hk (by decide))
  have hal : ∀ j, (w.alloc (.cells #[.string ⟨#[116, 101, 120, 116, 47, 112, 108, 97, 105, 110]⟩, .string ⟨#[109, 117, 108, 116, 105, 112, 97, 114, 116, 47, 102, 111, 114, 109, 45, 100, 97, 116, 97]⟩, .string ⟨#[97, 112, 112, 108, 105, 99, 97, 116, 105, 111, 110, 47, 120, 45, 119, 119, 119, 45, 102, 111, 114, 109, 45, 117, 114, 108, 101, 110, 99, 111, 100, 101, 100]⟩, .string ⟨#[97, 112, 112, 108, 105, 99, 97, 116, 105, 111, 110, 47, 106, 115, 111, 110]⟩, .string ⟨#[116, 101, 120, 116, 47, 104, 116, 109, 108]⟩, .string ⟨#[116, 101, 120, 116]⟩, .string ⟨#[116, 101, 120, 116, 47]⟩, .string ⟨#[97, 47, 98, 47, 99]⟩] 9)).cell? ⟨w.heap.size, j, none⟩ = (#[.string ⟨#[116, 101, 120, 116, 47, 112, 108, 97, 105, 110]⟩, .string ⟨#[109, 117, 108, 116, 105, 112, 97, 114, 116, 47, 102, 111, 114, 109, 45, 100, 97, 116, 97]⟩, .string ⟨#[97, 112, 112, 108, 105, 99, 97, 116, 105, 111, 110, 47, 120, 45, 119, 119, 119, 45, 102, 111, 114, 109, 45, 117, 114, 108, 101, 110, 99, 111, 100, 101, 100]⟩, .string ⟨#[97, 112, 112, 108, 105, 99, 97, 116, 105, 111, 110, 47, 106, 115, 111, 110]⟩, .string ⟨#[116, 101, 120, 116, 47, 104, 116, 109, 108]⟩, .string ⟨#[116, 101, 120, 116]⟩, .string ⟨#[116, 101, 120, 116, 47]⟩, .string ⟨#[97, 47, 98, 47, 99]⟩] : Array Value)[j]? := fun j => alloc_cell w _ _ _ j
  have hbel : Below w.heap.size w (w.alloc (.cells #[.string ⟨#[116, 101, 120, 116, 47, 112, 108, 97, 105, 110]⟩, .string ⟨#[109, 117, 108, 116, 105, 112, 97, 114, 116, 47, 102, 111, 114, 109, 45, 100, 97, 116, 97]⟩, .string ⟨#[97, 112, 112, 108, 105, 99, 97, 116, 105, 111, 110, 47, 120, 45, 119, 119, 119, 45, 102, 111, 114, 109, 45, 117, 114, 108, 101, 110, 99, 111, 100, 101, 100]⟩, .string ⟨#[97, 112, 112, 108, 105, 99, 97, 116, 105, 111, 110, 47, 106, 115, 111, 110]⟩, .string ⟨#[116, 101, 120, 116, 47, 104, 116, 109, 108]⟩, .string ⟨#[116, 101, 120, 116]⟩, .string ⟨#[116, 101, 120, 116, 47]⟩, .string ⟨#[97, 47, 98, 47, 99]⟩] 9)) := below_more (Below.refl _ _) _
  have hsz0 : (w.alloc (.cells #[.string ⟨#[116, 101, 120, 116, 47, 112, 108, 97, 105, 110]⟩, .string ⟨#[109, 117, 108, 116, 105, 112, 97, 114, 116, 47, 102, 111, 114, 109, 45, 100, 97, 116, 97]⟩, .string ⟨#[97, 112, 112, 108, 105, 99, 97, 116, 105, 111, 110, 47, 120, 45, 119, 119, 119, 45, 102, 111, 114, 109, 45, 117, 114, 108, 101, 110, 99, 111, 100, 101, 100]⟩, .string ⟨#[97, 112, 112, 108, 105, 99, 97, 116, 105, 111, 110, 47, 106, 115, 111, 110]⟩, .string ⟨#[116, 101, 120, 116, 47, 104, 116, 109, 108]⟩, .string ⟨#[116, 101, 120, 116]⟩, .string ⟨#[116, 101, 120, 116, 47]⟩, .string ⟨#[97, 47, 98, 47, 99]⟩] 9)).heap.size = w.heap.size + 1 := Array.size_push ..
  have HAL : Hid (∀ r, r < 8 → (w.alloc (.cells #[.string ⟨#[116, 101, 120, 116, 47, 112, 108, 97, 105, 110]⟩, .string ⟨#[109, 117, 108, 116, 105, 112, 97, 114, 116, 47, 102, 111, 114, 109, 45, 100, 97, 116, 97]⟩, .string ⟨#[97, 112, 112, 108, 105, 99, 97, 116, 105, 111, 110, 47, 120, 45, 119, 119, 119, 45, 102, 111, 114, 109, 45, 117, 114, 108, 101, 110, 99, 111, 100, 101, 100]⟩, .string ⟨#[97, 112, 112, 108, 105, 99, 97, 116, 105, 111, 110, 47, 106, 115, 111, 110]⟩, .string ⟨#[116, 101, 120, 116, 47, 104, 116, 109, 108]⟩, .string ⟨#[116, 101, 120, 116]⟩, .string ⟨#[116, 101, 120, 116, 47]⟩, .string ⟨#[97, 47, 98, 47, 99]⟩] 9)).cell? ⟨w.heap.size, r, none⟩ = some (strL (litsL.getD r []))) := Lib.hid (fun r hr => by
    rw [hal]
    match r, hr with
    | 0, _ => rfl
    | 1, _ => rfl
    | 2, _ => rfl
    | 3, _ => rfl
    | 4, _ => rfl
    | 5, _ => rfl
    | 6, _ => rfl
    | 7, _ => rfl)
  have HBEL := Lib.hid hbel
  clear hal hbel hsz0 hk
  go_enter Try.func9, Try.ntmps9
  go_wp2_with fail
  refine (HR.out _).mono ?_
  rintro e w2 ⟨⟨r, hr, rfl⟩, rfl⟩
  obtain ⟨w1, hw1⟩ : ∃ w1, w1 = w.alloc (.cells #[.string ⟨#[116, 101, 120, 116, 47, 112, 108, 97, 105, 110]⟩, .string ⟨#[109, 117, 108, 116, 105, 112, 97, 114, 116, 47, 102, 111, 114, 109, 45, 100, 97, 116, 97]⟩, .string ⟨#[97, 112, 112, 108, 105, 99, 97, 116, 105, 111, 110, 47, 120, 45, 119, 119, 119, 45, 102, 111, 114, 109, 45, 117, 114, 108, 101, 110, 99, 111, 100, 101, 100]⟩, .string ⟨#[97, 112, 112, 108, 105, 99, 97, 116, 105, 111, 110, 47, 106, 115, 111, 110]⟩, .string ⟨#[116, 101, 120, 116, 47, 104, 116, 109, 108]⟩, .string ⟨#[116, 101, 120, 116]⟩, .string ⟨#[116, 101, 120, 116, 47]⟩, .string ⟨#[97, 47, 98, 47, 99]⟩] 9) := ⟨_, rfl⟩
  rw [← hw1] at HAL HBEL ⊢
  obtain ⟨Z, hZ⟩ : ∃ Z : ByteArray, Z = ⟨(litsL.getD r []).toArray⟩ := ⟨_, rfl⟩
  have hc1 : w1.cell? ⟨w.heap.size, r, none⟩ = some (.string Z) := by rw [HAL.out r hr, hZ]; rfl
  have HZ : Hid (Z.data.toList = litsL.getD r []) := Lib.hid (by rw [hZ])
  obtain ⟨g0, hg0⟩ : ∃ g0, g0 = w.heap.size := ⟨_, rfl⟩
  rw [← hg0] at hc1 ⊢
  have hri : (r : Int) < 8 := by omega
  have HT := Lib.hid (typ_facts r hr false true)
  have hZs : Z.size ≤ 60 := by
    have h := (typ_facts r hr false false).2.2.2
    unfold mkL at h
    rw [hZ, mk_size]
    simpa using h
  have HEG : Hid (∀ (T : ByteArray) (p g : Bool), T.data.toList = mkL r p g → ∀ W, Calls Try.prog 18 #[.string T] W fun e w' => e = .returned (.tuple #[strL (essL (mkL r p g)), .bool (essB (mkL r p g))]) ∧ Below W.heap.size W w') := Lib.hid (fun T p g hT W => by rw [← hT]; exact ess_any T (by have h := (typ_facts r hr p g).2.2.2; rw [← hT, size_data] at h; omega) W)
  have HSG : Hid (∀ (T : ByteArray) (p g : Bool), T.data.toList = mvL r p g → ∀ W, Calls Try.prog 22 #[.agg #[.string ⟨#[99, 111, 110, 116, 101, 110, 116, 45, 84, 89, 80, 69]⟩, .string T]] W fun e w' => e = .returned (.bool (simB ctnL (mvL r p g))) ∧ Below W.heap.size W w') := Lib.hid (fun T p g hT W => by rw [← hT]; exact simple_any ⟨#[99, 111, 110, 116, 101, 110, 116, 45, 84, 89, 80, 69]⟩ T (by decide) (by have h := (typ_facts r hr p g).2.2.2; have h2 : T.size ≤ (mkL r p g).length := (by rw [← size_data, hT]; exact mv_len r p g); omega) W)
  clear hw1 hZ hg0 HR HAL
  have HU := Lib.hid (upper_any Z (by omega) w1)
  obtain ⟨U, hU⟩ : ∃ U : ByteArray, U = ⟨(capL Z.data.toList).toArray⟩ := ⟨_, rfl⟩
  have hUs : U.size ≤ 60 := by rw [hU, mk_size]; unfold capL; rw [List.length_map, size_data]; exact hZs
  have HUL : Hid (U.data.toList = capL Z.data.toList) := Lib.hid (by rw [hU])
  go_wp2_with fail
  refine HU.out.mono ?_
  rintro e w3 ⟨⟨c, rfl, hbuf⟩, hb3⟩
  have B3 := Lib.hid (HBEL.out.trans (hb3.mono HBEL.out.size))
  have hc3 := cell_stays hc1 hb3
  have kc := run_convert_buf (P := Try.prog) 39 5 9 Try.underlying39 Try.underlying5 Try.underlying9 (n := Z.size) (cap := c) hbuf (by unfold capL; rw [List.length_map, size_data])
  rw [← hU] at kc
  clear hb3 hbuf hU hc1
  have hS20 : ((⟨#[9]⟩ : ByteArray) ++ U).data.toList = mkL r false true := by
    unfold mkL
    rw [if_pos rfl, if_neg (by decide), List.append_nil, happ, HUL.out, HZ.out]
    rfl
  obtain ⟨S2, hS2e⟩ : ∃ S2 : ByteArray, S2 = ((⟨#[9]⟩ : ByteArray) ++ U) := ⟨_, rfl⟩
  have hS2 : S2.data.toList = mkL r false true := by rw [hS2e]; exact hS20
  clear hS20
  have hS2s : S2.size ≤ 200 := by have h := HT.out.2.2.2; rw [← hS2, size_data] at h; omega
  have HE := Lib.hid (HEG.out S2 false true hS2)
  have hV2 : (S2.extract 1 S2.size).data.toList = mvL r false true := by
    rw [extract_tail, hS2]
    rfl
  have HSM := Lib.hid (HSG.out (S2.extract 1 S2.size) false true hV2)
  have h1n : 1 ≤ S2.size := by rw [hS2e, ByteArray.size_append]; show 1 ≤ 1 + U.size; omega
  have h1s : (1 : Int) ≤ (S2.size : Int) := by omega
  have hess := HT.out.1
  have hesl := HT.out.2.1
  have hsim := HT.out.2.2.1
  rcases (by omega : r < 3 ∨ (¬ r < 3 ∧ r < 5) ∨ ¬ r < 5) with h3 | ⟨h3, h5⟩ | h5
  · have h5 : r < 5 := by omega
    rw [decide_eq_true h5] at hess
    rw [decide_eq_true h3] at hsim
    rw [hess] at HE
    rw [hsim] at HSM
    have HZV : Hid (strL (essL (mkL r false true)) = .string Z) := Lib.hid (by rw [hesl h5]; exact strL_of HZ.out)
    rw [HZV.out] at HE
    have hzz : (Z.toList == Z.toList) = true := beq_iff_eq.2 rfl
    have h5i : (r : Int) < 5 := by omega
    have h3i : (r : Int) < 3 := by omega
    clear hess hesl hsim h3 h5 hS2 hV2 hr
    go_wp2_with fail
    rw [← hS2e]
    clear hS2e
    refine (HE.out _).mono ?_
    rintro e w4 ⟨rfl, hb4⟩
    have B4 := Lib.hid (B3.out.trans (hb4.mono B3.out.size))
    have hc4 := cell_stays hc3 hb4
    clear hb4 hc3
    go_wp2_with fail
    refine (HSM.out _).mono ?_
    rintro e w5 ⟨rfl, hb5⟩
    have B5 := Lib.hid (B4.out.trans (hb5.mono B4.out.size))
    clear hb5
    go_wp2_with fail
    refine (HA.out _).mono ?_
    rintro e w6 ⟨rfl, hb6⟩
    have B6 := Lib.hid (B5.out.trans (hb6.mono B5.out.size))
    clear hb6
    go_wp2_with fail
    go_ret
    exact ⟨rfl, B6.out⟩
  · rw [decide_eq_true h5] at hess
    rw [decide_eq_false h3] at hsim
    rw [hess] at HE
    rw [hsim] at HSM
    have HZV : Hid (strL (essL (mkL r false true)) = .string Z) := Lib.hid (by rw [hesl h5]; exact strL_of HZ.out)
    rw [HZV.out] at HE
    have hzz : (Z.toList == Z.toList) = true := beq_iff_eq.2 rfl
    have h5i : (r : Int) < 5 := by omega
    have h3i : ((r : Int) < 3) = False := eq_false (by omega)
    clear hess hesl hsim h3 h5 hS2 hV2 hr
    go_wp2_with fail
    rw [← hS2e]
    clear hS2e
    refine (HE.out _).mono ?_
    rintro e w4 ⟨rfl, hb4⟩
    have B4 := Lib.hid (B3.out.trans (hb4.mono B3.out.size))
    have hc4 := cell_stays hc3 hb4
    clear hb4 hc3
    go_wp2_with fail
    refine (HSM.out _).mono ?_
    rintro e w5 ⟨rfl, hb5⟩
    have B5 := Lib.hid (B4.out.trans (hb5.mono B4.out.size))
    clear hb5
    go_wp2_with fail
    refine (HA.out _).mono ?_
    rintro e w6 ⟨rfl, hb6⟩
    have B6 := Lib.hid (B5.out.trans (hb6.mono B5.out.size))
    clear hb6
    go_wp2_with fail
    go_ret
    exact ⟨rfl, B6.out⟩
  · have h3 : ¬ r < 3 := by omega
    rw [decide_eq_false h5] at hess
    rw [decide_eq_false h3] at hsim
    rw [hess] at HE
    rw [hsim] at HSM
    obtain ⟨E, hE⟩ : ∃ E : ByteArray, strL (essL (mkL r false true)) = .string E := ⟨_, rfl⟩
    rw [hE] at HE
    have h5i : ((r : Int) < 5) = False := eq_false (by omega)
    have h3i : ((r : Int) < 3) = False := eq_false (by omega)
    clear hess hesl hsim h3 h5 hS2 hV2 hr hE
    go_wp2_with fail
    rw [← hS2e]
    clear hS2e
    refine (HE.out _).mono ?_
    rintro e w4 ⟨rfl, hb4⟩
    have B4 := Lib.hid (B3.out.trans (hb4.mono B3.out.size))
    have hc4 := cell_stays hc3 hb4
    clear hb4 hc3
    go_wp2_with fail
    refine (HSM.out _).mono ?_
    rintro e w5 ⟨rfl, hb5⟩
    have B5 := Lib.hid (B4.out.trans (hb5.mono B4.out.size))
    clear hb5
    go_wp2_with fail
    refine (HA.out _).mono ?_
    rintro e w6 ⟨rfl, hb6⟩
    have B6 := Lib.hid (B5.out.trans (hb6.mono B5.out.size))
    clear hb6
    go_wp2_with fail
    go_ret
    exact ⟨rfl, B6.out⟩

set_option maxHeartbeats 8000000 in
theorem headerTypes_ff {w : World} (k : Int) (hk : -9223372036854775808 ≤ k ∧ k ≤ 9223372036854775807) :
    Calls Try.prog 9 #[.int .i64 k, .bool false, .bool false] w fun e w' => e = .returned (.bool true) ∧ Below w.heap.size w w' := by
  have HA := Lib.hid (fun W => hawake_any W)
  have HR : Hid (∀ W, Calls Try.prog 27 #[.int .i64 k, .int .i64 8] W fun e w' => (∃ r : Nat, r < 8 ∧ e = .returned (.int .i64 r)) ∧ W = w') := Lib.hid (fun W => round_any k 8 W hk (by decide))
  have hal : ∀ j, (w.alloc (.cells #[.string ⟨#[116, 101, 120, 116, 47, 112, 108, 97, 105, 110]⟩, .string ⟨#[109, 117, 108, 116, 105, 112, 97, 114, 116, 47, 102, 111, 114, 109, 45, 100, 97, 116, 97]⟩, .string ⟨#[97, 112, 112, 108, 105, 99, 97, 116, 105, 111, 110, 47, 120, 45, 119, 119, 119, 45, 102, 111, 114, 109, 45, 117, 114, 108, 101, 110, 99, 111, 100, 101, 100]⟩, .string ⟨#[97, 112, 112, 108, 105, 99, 97, 116, 105, 111, 110, 47, 106, 115, 111, 110]⟩, .string ⟨#[116, 101, 120, 116, 47, 104, 116, 109, 108]⟩, .string ⟨#[116, 101, 120, 116]⟩, .string ⟨#[116, 101, 120, 116, 47]⟩, .string ⟨#[97, 47, 98, 47, 99]⟩] 9)).cell? ⟨w.heap.size, j, none⟩ = (#[.string ⟨#[116, 101, 120, 116, 47, 112, 108, 97, 105, 110]⟩, .string ⟨#[109, 117, 108, 116, 105, 112, 97, 114, 116, 47, 102, 111, 114, 109, 45, 100, 97, 116, 97]⟩, .string ⟨#[97, 112, 112, 108, 105, 99, 97, 116, 105, 111, 110, 47, 120, 45, 119, 119, 119, 45, 102, 111, 114, 109, 45, 117, 114, 108, 101, 110, 99, 111, 100, 101, 100]⟩, .string ⟨#[97, 112, 112, 108, 105, 99, 97, 116, 105, 111, 110, 47, 106, 115, 111, 110]⟩, .string ⟨#[116, 101, 120, 116, 47, 104, 116, 109, 108]⟩, .string ⟨#[116, 101, 120, 116]⟩, .string ⟨#[116, 101, 120, 116, 47]⟩, .string ⟨#[97, 47, 98, 47, 99]⟩] : Array Value)[j]? := fun j => alloc_cell w _ _ _ j
  have hbel : Below w.heap.size w (w.alloc (.cells #[.string ⟨#[116, 101, 120, 116, 47, 112, 108, 97, 105, 110]⟩, .string ⟨#[109, 117, 108, 116, 105, 112, 97, 114, 116, 47, 102, 111, 114, 109, 45, 100, 97, 116, 97]⟩, .string ⟨#[97, 112, 112, 108, 105, 99, 97, 116, 105, 111, 110, 47, 120, 45, 119, 119, 119, 45, 102, 111, 114, 109, 45, 117, 114, 108, 101, 110, 99, 111, 100, 101, 100]⟩, .string ⟨#[97, 112, 112, 108, 105, 99, 97, 116, 105, 111, 110, 47, 106, 115, 111, 110]⟩, .string ⟨#[116, 101, 120, 116, 47, 104, 116, 109, 108]⟩, .string ⟨#[116, 101, 120, 116]⟩, .string ⟨#[116, 101, 120, 116, 47]⟩, .string ⟨#[97, 47, 98, 47, 99]⟩] 9)) := below_more (Below.refl _ _) _
  have hsz0 : (w.alloc (.cells #[.string ⟨#[116, 101, 120, 116, 47, 112, 108, 97, 105, 110]⟩, .string ⟨#[109, 117, 108, 116, 105, 112, 97, 114, 116, 47, 102, 111, 114, 109, 45, 100, 97, 116, 97]⟩, .string ⟨#[97, 112, 112, 108, 105, 99, 97, 116, 105, 111, 110, 47, 120, 45, 119, 119, 119, 45, 102, 111, 114, 109, 45, 117, 114, 108, 101, 110, 99, 111, 100, 101, 100]⟩, .string ⟨#[97, 112, 112, 108, 105, 99, 97, 116, 105, 111, 110, 47, 106, 115, 111, 110]⟩, .string ⟨#[116, 101, 120, 116, 47, 104, 116, 109, 108]⟩, .string ⟨#[116, 101, 120, 116]⟩, .string ⟨#[116, 101, 120, 116, 47]⟩, .string ⟨#[97, 47, 98, 47, 99]⟩] 9)).heap.size = w.heap.size + 1 := Array.size_push ..
  have HAL : Hid (∀ r, r < 8 → (w.alloc (.cells #[.string ⟨#[116, 101, 120, 116, 47, 112, 108, 97, 105, 110]⟩, .string ⟨#[109, 117, 108, 116, 105, 112, 97, 114, 116, 47, 102, 111, 114, 109, 45, 100, 97, 116, 97]⟩, .string ⟨#[97, 112, 112, 108, 105, 99, 97, 116, 105, 111, 110, 47, 120, 45, 119, 119, 119, 45, 102, 111, 114, 109, 45, 117, 114, 108, 101, 110, 99, 111, 100, 101, 100]⟩, .string ⟨#[97, 112, 112, 108, 105, 99, 97, 116, 105, 111, 110, 47, 106, 115, 111, 110]⟩, .string ⟨#[116, 101, 120, 116, 47, 104, 116, 109, 108]⟩, .string ⟨#[116, 101, 120, 116]⟩, .string ⟨#[116, 101, 120, 116, 47]⟩, .string ⟨#[97, 47, 98, 47, 99]⟩] 9)).cell? ⟨w.heap.size, r, none⟩ = some (strL (litsL.getD r []))) := Lib.hid (fun r hr => by
    rw [hal]
    match r, hr with
    | 0, _ => rfl
    | 1, _ => rfl
    | 2, _ => rfl
    | 3, _ => rfl
    | 4, _ => rfl
    | 5, _ => rfl
    | 6, _ => rfl
    | 7, _ => rfl)
  have HBEL := Lib.hid hbel
  clear hal hbel hsz0 hk
  go_enter Try.func9, Try.ntmps9
  go_wp2_with fail
  refine (HR.out _).mono ?_
  rintro e w2 ⟨⟨r, hr, rfl⟩, rfl⟩
  obtain ⟨w1, hw1⟩ : ∃ w1, w1 = w.alloc (.cells #[.string ⟨#[116, 101, 120, 116, 47, 112, 108, 97, 105, 110]⟩, .string ⟨#[109, 117, 108, 116, 105, 112, 97, 114, 116, 47, 102, 111, 114, 109, 45, 100, 97, 116, 97]⟩, .string ⟨#[97, 112, 112, 108, 105, 99, 97, 116, 105, 111, 110, 47, 120, 45, 119, 119, 119, 45, 102, 111, 114, 109, 45, 117, 114, 108, 101, 110, 99, 111, 100, 101, 100]⟩, .string ⟨#[97, 112, 112, 108, 105, 99, 97, 116, 105, 111, 110, 47, 106, 115, 111, 110]⟩, .string ⟨#[116, 101, 120, 116, 47, 104, 116, 109, 108]⟩, .string ⟨#[116, 101, 120, 116]⟩, .string ⟨#[116, 101, 120, 116, 47]⟩, .string ⟨#[97, 47, 98, 47, 99]⟩] 9) := ⟨_, rfl⟩
  rw [← hw1] at HAL HBEL ⊢
  obtain ⟨Z, hZ⟩ : ∃ Z : ByteArray, Z = ⟨(litsL.getD r []).toArray⟩ := ⟨_, rfl⟩
  have hc1 : w1.cell? ⟨w.heap.size, r, none⟩ = some (.string Z) := by rw [HAL.out r hr, hZ]; rfl
  have HZ : Hid (Z.data.toList = litsL.getD r []) := Lib.hid (by rw [hZ])
  obtain ⟨g0, hg0⟩ : ∃ g0, g0 = w.heap.size := ⟨_, rfl⟩
  rw [← hg0] at hc1 ⊢
  have hri : (r : Int) < 8 := by omega
  have HT := Lib.hid (typ_facts r hr false false)
  have hZs : Z.size ≤ 60 := by
    have h := (typ_facts r hr false false).2.2.2
    unfold mkL at h
    rw [hZ, mk_size]
    simpa using h
  have HEG : Hid (∀ (T : ByteArray) (p g : Bool), T.data.toList = mkL r p g → ∀ W, Calls Try.prog 18 #[.string T] W fun e w' => e = .returned (.tuple #[strL (essL (mkL r p g)), .bool (essB (mkL r p g))]) ∧ Below W.heap.size W w') := Lib.hid (fun T p g hT W => by rw [← hT]; exact ess_any T (by have h := (typ_facts r hr p g).2.2.2; rw [← hT, size_data] at h; omega) W)
  have HSG : Hid (∀ (T : ByteArray) (p g : Bool), T.data.toList = mvL r p g → ∀ W, Calls Try.prog 22 #[.agg #[.string ⟨#[99, 111, 110, 116, 101, 110, 116, 45, 84, 89, 80, 69]⟩, .string T]] W fun e w' => e = .returned (.bool (simB ctnL (mvL r p g))) ∧ Below W.heap.size W w') := Lib.hid (fun T p g hT W => by rw [← hT]; exact simple_any ⟨#[99, 111, 110, 116, 101, 110, 116, 45, 84, 89, 80, 69]⟩ T (by decide) (by have h := (typ_facts r hr p g).2.2.2; have h2 : T.size ≤ (mkL r p g).length := (by rw [← size_data, hT]; exact mv_len r p g); omega) W)
  clear hw1 hZ hg0 HR HAL
  have hS2 : Z.data.toList = mkL r false false := by
    unfold mkL
    rw [if_neg (by decide), if_neg (by decide), List.append_nil, HZ.out]
  have hS2s : Z.size ≤ 200 := by have h := HT.out.2.2.2; rw [← hS2, size_data] at h; omega
  have HE := Lib.hid (HEG.out Z false false hS2)
  have hV2 : Z.data.toList = mvL r false false := hS2
  have HSM := Lib.hid (HSG.out Z false false hV2)
  have hess := HT.out.1
  have hesl := HT.out.2.1
  have hsim := HT.out.2.2.1
  rcases (by omega : r < 3 ∨ (¬ r < 3 ∧ r < 5) ∨ ¬ r < 5) with h3 | ⟨h3, h5⟩ | h5
  · have h5 : r < 5 := by omega
    rw [decide_eq_true h5] at hess
    rw [decide_eq_true h3] at hsim
    rw [hess] at HE
    rw [hsim] at HSM
    have HZV : Hid (strL (essL (mkL r false false)) = .string Z) := Lib.hid (by rw [hesl h5]; exact strL_of HZ.out)
    rw [HZV.out] at HE
    have hzz : (Z.toList == Z.toList) = true := beq_iff_eq.2 rfl
    have h5i : (r : Int) < 5 := by omega
    have h3i : (r : Int) < 3 := by omega
    clear hess hesl hsim h3 h5 hS2 hV2 hr
    go_wp2_with fail
    refine (HE.out _).mono ?_
    rintro e w4 ⟨rfl, hb4⟩
    have B4 := Lib.hid (HBEL.out.trans (hb4.mono HBEL.out.size))
    have hc4 := cell_stays hc1 hb4
    clear hb4 hc1
    go_wp2_with fail
    refine (HSM.out _).mono ?_
    rintro e w5 ⟨rfl, hb5⟩
    have B5 := Lib.hid (B4.out.trans (hb5.mono B4.out.size))
    clear hb5
    go_wp2_with fail
    refine (HA.out _).mono ?_
    rintro e w6 ⟨rfl, hb6⟩
    have B6 := Lib.hid (B5.out.trans (hb6.mono B5.out.size))
    clear hb6
    go_wp2_with fail
    go_ret
    exact ⟨rfl, B6.out⟩
  · rw [decide_eq_true h5] at hess
    rw [decide_eq_false h3] at hsim
    rw [hess] at HE
    rw [hsim] at HSM
    have HZV : Hid (strL (essL (mkL r false false)) = .string Z) := Lib.hid (by rw [hesl h5]; exact strL_of HZ.out)
    rw [HZV.out] at HE
    have hzz : (Z.toList == Z.toList) = true := beq_iff_eq.2 rfl
    have h5i : (r : Int) < 5 := by omega
    have h3i : ((r : Int) < 3) = False := eq_false (by omega)
    clear hess hesl hsim h3 h5 hS2 hV2 hr
    go_wp2_with fail
    refine (HE.out _).mono ?_
    rintro e w4 ⟨rfl, hb4⟩
    have B4 := Lib.hid (HBEL.out.trans (hb4.mono HBEL.out.size))
    have hc4 := cell_stays hc1 hb4
    clear hb4 hc1
    go_wp2_with fail
    refine (HSM.out _).mono ?_
    rintro e w5 ⟨rfl, hb5⟩
    have B5 := Lib.hid (B4.out.trans (hb5.mono B4.out.size))
    clear hb5
    go_wp2_with fail
    refine (HA.out _).mono ?_
    rintro e w6 ⟨rfl, hb6⟩
    have B6 := Lib.hid (B5.out.trans (hb6.mono B5.out.size))
    clear hb6
    go_wp2_with fail
    go_ret
    exact ⟨rfl, B6.out⟩
  · have h3 : ¬ r < 3 := by omega
    rw [decide_eq_false h5] at hess
    rw [decide_eq_false h3] at hsim
    rw [hess] at HE
    rw [hsim] at HSM
    obtain ⟨E, hE⟩ : ∃ E : ByteArray, strL (essL (mkL r false false)) = .string E := ⟨_, rfl⟩
    rw [hE] at HE
    have h5i : ((r : Int) < 5) = False := eq_false (by omega)
    have h3i : ((r : Int) < 3) = False := eq_false (by omega)
    clear hess hesl hsim h3 h5 hS2 hV2 hr hE
    go_wp2_with fail
    refine (HE.out _).mono ?_
    rintro e w4 ⟨rfl, hb4⟩
    have B4 := Lib.hid (HBEL.out.trans (hb4.mono HBEL.out.size))
    have hc4 := cell_stays hc1 hb4
    clear hb4 hc1
    go_wp2_with fail
    refine (HSM.out _).mono ?_
    rintro e w5 ⟨rfl, hb5⟩
    have B5 := Lib.hid (B4.out.trans (hb5.mono B4.out.size))
    clear hb5
    go_wp2_with fail
    refine (HA.out _).mono ?_
    rintro e w6 ⟨rfl, hb6⟩
    have B6 := Lib.hid (B5.out.trans (hb6.mono B5.out.size))
    clear hb6
    go_wp2_with fail
    go_ret
    exact ⟨rfl, B6.out⟩

theorem headerTypes_any {w : World} (k : Int) (hk : -9223372036854775808 ≤ k ∧ k ≤ 9223372036854775807) (p g : Bool) :
    Calls Try.prog 9 #[.int .i64 k, .bool p, .bool g] w fun e w' => e = .returned (.bool true) ∧ Below w.heap.size w w' := by
  cases p with
  | true =>
    cases g with
    | true => exact headerTypes_tt k hk
    | false => exact headerTypes_tf k hk
  | false =>
    cases g with
    | true => exact headerTypes_ft k hk
    | false => exact headerTypes_ff k hk

theorem headerTypes_own : ownKnob Try.prog.godebug = none := by kernel_rfl

set_option maxRecDepth 100000 in
theorem headerTypes_lifted (os : Os) (started : os.Started) (H : Type) (enc : TypeId × Value → H) :
    ReturnsInHanded {} Try.checked os 9 .any (Rows.headerTypesSpec.pre6 enc Try.prog Try.f9 Rows.headerTypesRow.domain false) (Rows.headerTypesSpec.post enc Try.prog Try.f9 false true false false) := by
  refine law_lifted (C := Try.checked) headerTypes_own started (by kernel_rfl) Try.func9
    (ChangeSpec.witness6 (enc := enc) (C := Try.checked) false ⟨#[], #[.int .i64 0, .bool false, .bool false], []⟩ 8 (by kernel_rfl) (by kernel_rfl) (by kernel_rfl) (by kernel_rfl))
    (by kernel_rfl) (of_decide_eq_true (by kernel_rfl)) (tb := 4) (by kernel_rfl) Try.underlying4 rfl (fun ds h => by match ds, h with | [d0, d1, d2], _ => exact ⟨rfl, rfl, rfl⟩) ?_
  intro W base args ds p hval0 hA0 hlt hsz0
  have hval : ∀ (j : Nat) t v, Try.f9.params[j]? = some t → args[j]? = some v → Value.okWide Try.prog W .any base t v := hval0
  have hA : DataW.TrodAll enc Try.prog W 0 (fun _ => true) true Try.f9.params.toList args.toList ds p := hA0
  have hsz : (DataW.weightsEach Try.prog Try.f9.params.toList ds).all (· ≤ reachBytes) = true := hsz0
  rw [Try.params9] at hA hval hsz
  obtain ⟨v0, vs0, d0, ds0, p0, q0, hargs, rfl, rfl, h0, r0⟩ := trodAll_cons hA
  obtain ⟨v1, vs1, d1, ds1, p1, q1, rfl, rfl, rfl, h1, r1⟩ := trodAll_cons r0
  obtain ⟨v2, vs2, d2, ds2, p2, q2, rfl, rfl, rfl, h2, r2⟩ := trodAll_cons r1
  obtain ⟨rfl, rfl, rfl⟩ := trodAll_nil r2
  obtain rfl : args = #[v0, v1, v2] := by cases args; simp_all
  obtain ⟨a0, rfl, rfl, rfl, w0⟩ := open_int Try.underlying3 (hval 0 3 v0 rfl rfl) h0
  obtain ⟨a1, rfl, rfl, rfl⟩ := open_bool Try.underlying4 (hval 1 4 v1 rfl rfl) h1
  obtain ⟨a2, rfl, rfl, rfl⟩ := open_bool Try.underlying4 (hval 2 4 v2 rfl rfl) h2
  exact headerTypes_any (w := W) a0 (bounds_i64 w0) a1 a2

theorem headerTypes_over : Rows.headerTypesRow.holds Try.pinned (OpenSpec.ofChange Rows.headerTypesSpec) :=
  OpenClaim.holds_of_wide 9 Try.f9 rfl rfl rfl rfl rfl rfl rfl ⟨rfl, rfl, rfl, rfl, rfl⟩ rfl rfl rfl rfl rfl (by kernel_rfl) Try.func9 (by kernel_rfl)
    (of_decide_eq_true (by kernel_rfl)) (by unfold Func.isWrapper; first | (rw [if_pos (by decide +kernel)]; kernel_rfl) | (rw [if_neg (by decide +kernel)]; exact ⟨rfl, rfl⟩))
    (fun os started H enc _ => headerTypes_lifted os started H enc)

theorem headerTypes_proved : Rows.HeaderTypesSaid := headerTypes_over
#print axioms headerTypes_proved

end Go.Proofs.Ytfgpcajjnpmoeaa
