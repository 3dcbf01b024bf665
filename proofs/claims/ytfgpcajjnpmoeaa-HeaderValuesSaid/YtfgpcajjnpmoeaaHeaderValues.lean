/-
  HeaderValues: any names' values are told, in order, and cut at commas, as the document says; the law returns true for all fields and names, and what was there has not turned. No condition.
-/
import Derived.Test.YtfgpcajjnpmoeaaProg
import Derived.Test.YtfgpcajjnpmoeaaKit
import Derived.Test.YtfgpcajjnpmoeaaLaw
import Derived.Test.YtfgpcajjnpmoeaaAsc4
import Derived.Test.YtfgpcajjnpmoeaaRow
import Derived.Test.YtfgpcajjnpmoeaaJoin
import Derived.Test.YtfgpcajjnpmoeaaHdr0
import Derived.Test.YtfgpcajjnpmoeaaHdr8
import Derived.Test.YtfgpcajjnpmoeaaHdr9
import Derived.Test.YtfgpcajjnpmoeaaHdr10
import Derived.Test.YtfgpcajjnpmoeaaHdr11
import Derived.Test.YtfgpcajjnpmoeaaHdr15
import Derived.Test.YtfgpcajjnpmoeaaHdr16
namespace Go.Proofs.Ytfgpcajjnpmoeaa
open Go.ChangeShapes Go.WideShapes Go.ChangeAt Go.RowKit Go.Proofs
open Go.ChangeMaps (open_string shut_string)

theorem vals_tot (zs : List (List UInt8)) : ∀ ls : List FldM, llTot (valsL ls zs) ≤ fldTot ls
  | [] => by simp [valsL, llTot]
  | f :: r => by
    have h := vals_tot zs r
    unfold valsL at *
    rw [List.filter_cons]
    split
    · have : (fvl f).length = f.hv.size := size_data f.hv
      simp only [List.map_cons, llTot, fldTot]
      omega
    · simp only [fldTot]
      omega

theorem vals_none (ls : List FldM) : valsL ls (tx []) = [] := by
  unfold valsL tx sameIn
  simp

theorem headerValues_any {w : World} (ls : List FldM) (v : Value) (hv : FldsAt w v ls) (hok : FldOk ls) (u : Value) (zs : List ByteArray) (hu : SliceAt w u (zs.map strV)) (hl : zs.length * 16 ≤ 140737488351232) (hz : ∀ z ∈ zs, z.size ≤ 140737488351232) :
    Calls Try.prog 3 #[v, u] w fun e w' => e = .returned (.bool true) ∧ Below w.heap.size w w' := by
  have HF := Lib.hid (fields_any ls v w hv hok)
  have HT0 : Hid (∀ W, Below w.heap.size w W → Calls Try.prog 11 #[u, .int .i64 3000] W fun e w' => (∃ r : Int, e = .returned (.int .i64 r) ∧ 0 ≤ r ∧ r ≤ 1125899906842624 ∧ (r ≤ 3000 → (lsTot zs : Int) ≤ r)) ∧ w' = W) := Lib.hid (fun W hW => total2_any u zs 3000 W (by decide) (by omega) (fun z hzz => Nat.le_trans (hz z hzz) (by decide)) (SliceAt.below hu hW))
  have HV := Lib.hid hv
  have HU := Lib.hid hu
  have HA := Lib.hid (fun W => hawake_any W)
  obtain ⟨va, vc, rfl⟩ := flds_len hv
  obtain ⟨ua, uc, hu2⟩ := hu.len
  rw [List.length_map] at hu2
  subst hu2
  clear hv hok hu hl hz
  go_enter Try.func3, Try.ntmps3
  go_wp2_with fail
  refine HF.out.mono ?_
  rintro e w1 ⟨⟨b, rfl, hb⟩, hm1⟩
  have B1 := Lib.hid (below_draws (Below.refl w.heap.size w) hm1)
  have HB := Lib.hid hb
  clear hm1 hb
  cases b with
  | false =>
    go_wp2_with fail
    refine (HA.out _).mono ?_
    rintro e w2 ⟨rfl, hb2⟩
    have B2 := Lib.hid (below_then B1.out hb2)
    clear hb2
    go_wp2_with fail
    go_ret
    exact ⟨rfl, B2.out⟩
  | true =>
    go_wp2_with fail
    refine (HT0.out _ B1.out).mono ?_
    rintro e w2 ⟨⟨r, rfl, hr0, hr1, hr2⟩, rfl⟩
    have HR2 := Lib.hid hr2
    clear hr2
    by_cases hlong : 3000 < r
    · go_wp2_with fail
      refine (HA.out _).mono ?_
      rintro e w3 ⟨rfl, hb3⟩
      have B3 := Lib.hid (below_then B1.out hb3)
      clear hb3
      go_wp2_with fail
      go_ret
      exact ⟨rfl, B3.out⟩
    · have HFT : Hid (fldTot ls ≤ 6000) := Lib.hid (HB.out (by trivial))
      have HZT : Hid (lsTot zs ≤ 3000) := Lib.hid (by have := HR2.out (by omega); omega)
      have HVA : Hid (∀ W, Below w.heap.size w W → Calls Try.prog 13 #[.slice va ls.length vc, .slice ua zs.length uc] W fun e w' => ValsV W w' ls zs e) := Lib.hid (fun W hW => values_any ls _ zs _ W (flds_below HV.out hW) (by have := fldTot_len ls; have := HFT.out; omega) (fun f hf => by have := fldTot_mem hf; have := HFT.out; omega) (SliceAt.below HU.out hW) (by have := lsTot_len zs; have := HZT.out; omega) (fun z hzz => by have := lsTot_mem hzz; have := HZT.out; omega))
      have HVR : Hid (∀ W, Below w.heap.size w W → Calls Try.prog 14 #[.slice va ls.length vc, .slice ua zs.length uc] W fun e w' => ValsV W w' ls zs e) := Lib.hid (fun W hW => rvalues_any ls _ zs _ W (flds_below HV.out hW) (by have := fldTot_len ls; have := HFT.out; omega) (fun f hf => by have := fldTot_mem hf; have := HFT.out; omega) (SliceAt.below HU.out hW) (by have := lsTot_len zs; have := HZT.out; omega) (fun z hzz => by have := lsTot_mem hzz; have := HZT.out; omega))
      have HVN : Hid (∀ W, Below w.heap.size w W → Calls Try.prog 13 #[.slice va ls.length vc, .slice none 0 0] W fun e w' => ValsV W w' ls [] e) := Lib.hid (fun W hW => values_any ls _ [] _ W (flds_below HV.out hW) (by have := fldTot_len ls; have := HFT.out; omega) (fun f hf => by have := fldTot_mem hf; have := HFT.out; omega) (SliceAt.nil W) (by simp) (fun z hzz => by simp at hzz))
      obtain ⟨xs, hxs⟩ : ∃ xs, xs = valsL ls (tx zs) := ⟨_, rfl⟩
      have HXS := Lib.hid hxs
      have HXT : Hid (llTot xs ≤ 6000) := Lib.hid (by rw [hxs]; have := vals_tot (tx zs) ls; have := HFT.out; omega)
      have HTX : Hid (∀ (W : World) (a b : Value), SliceAt W a (xs.map strL) → SliceAt W b (xs.map strL) → Calls Try.prog 15 #[a, b] W fun e w' => e = .returned (.bool true) ∧ ∃ m, w' = W.drewN m) := Lib.hid (fun W a b h1 h2 => by
        have h := texts_any a b _ _ W h1 h2 (by have := llTot_len xs; have := HXT.out; omega) (by have := llTot_len xs; have := HXT.out; omega)
        rw [eqLL_yes rfl] at h
        exact h)
      have HLA : Hid (∀ (W : World) (a : Value), SliceAt W a (xs.map strL) → Calls Try.prog 16 #[a] W fun e w' => (∃ u, e = .returned u ∧ w'.ownsRow W.heap.size 9 1 u (listL xs).length ((listL xs).map strL)) ∧ Below W.heap.size W w') := Lib.hid (fun W a h => list_any xs a W h (by have := HXT.out; omega))
      have HLR : Hid (∀ (W : World) (a : Value), SliceAt W a (xs.map strL) → Calls Try.prog 17 #[a] W fun e w' => (∃ u, e = .returned u ∧ w'.ownsRow W.heap.size 9 1 u (listL xs).length ((listL xs).map strL)) ∧ Below W.heap.size W w') := Lib.hid (fun W a h => rlist_any xs a W h (by have := HXT.out; omega))
      have HTL : Hid (∀ (W : World) (a b : Value), SliceAt W a ((listL xs).map strL) → SliceAt W b ((listL xs).map strL) → Calls Try.prog 15 #[a, b] W fun e w' => e = .returned (.bool true) ∧ ∃ m, w' = W.drewN m) := Lib.hid (fun W a b h1 h2 => by
        have hle : (listL xs).length ≤ llTot xs := by
          have h := list_le xs xs.length
          rw [List.take_length] at h
          exact h
        have h := texts_any a b _ _ W h1 h2 (by have := HXT.out; omega) (by have := HXT.out; omega)
        rw [eqLL_yes rfl] at h
        exact h)
      clear hxs
      go_wp2_with fail
      refine (HVA.out _ B1.out).mono ?_
      rintro e w3 ⟨⟨u3, rfl, o3⟩, hb3⟩
      rw [← HXS.out] at o3
      have B3 := Lib.hid (below_then B1.out hb3)
      have S3 := Lib.hid (SliceAt.own o3)
      clear hb3 o3
      go_wp2_with fail
      refine (HVR.out _ B3.out).mono ?_
      rintro e w4 ⟨⟨u4, rfl, o4⟩, hb4⟩
      rw [← HXS.out] at o4
      have B4 := Lib.hid (below_then B3.out hb4)
      have S34 := Lib.hid (SliceAt.below S3.out hb4)
      have S4 := Lib.hid (SliceAt.own o4)
      clear hb4 o4
      go_wp2_with fail
      refine (HTX.out _ _ _ S34.out S4.out).mono ?_
      rintro e w5 ⟨rfl, hm5⟩
      have B5 := Lib.hid (below_draws B4.out hm5)
      have S45 := Lib.hid (SliceAt.below S4.out (below_draws (Below.refl _ _) hm5))
      clear hm5
      go_wp2_with fail
      refine (HLA.out _ _ S45.out).mono ?_
      rintro e w6 ⟨⟨u6, rfl, o6⟩, hb6⟩
      have B6 := Lib.hid (below_then B5.out hb6)
      have S46 := Lib.hid (SliceAt.below S45.out hb6)
      have S6 := Lib.hid (SliceAt.own o6)
      clear hb6 o6
      go_wp2_with fail
      refine (HLR.out _ _ S46.out).mono ?_
      rintro e w7 ⟨⟨u7, rfl, o7⟩, hb7⟩
      have B7 := Lib.hid (below_then B6.out hb7)
      have S67 := Lib.hid (SliceAt.below S6.out hb7)
      have S7 := Lib.hid (SliceAt.own o7)
      clear hb7 o7
      go_wp2_with fail
      refine (HTL.out _ _ _ S67.out S7.out).mono ?_
      rintro e w8 ⟨rfl, hm8⟩
      have B8 := Lib.hid (below_draws B7.out hm8)
      clear hm8
      go_wp2_with fail
      refine (HVN.out _ B8.out).mono ?_
      rintro e w9 ⟨⟨u9, rfl, o9⟩, hb9⟩
      rw [vals_none] at o9
      obtain ⟨a9, c9, rfl⟩ := own_len o9
      have B9 := Lib.hid (below_then B8.out hb9)
      clear hb9 o9
      go_wp2_with fail
      refine (HA.out _).mono ?_
      rintro e w10 ⟨rfl, hb10⟩
      have B10 := Lib.hid (below_then B9.out hb10)
      clear hb10
      go_wp2_with fail
      go_ret
      exact ⟨rfl, B10.out⟩

theorem headerValues_own : ownKnob Try.prog.godebug = none := by kernel_rfl

theorem headerValues_bytesStr : Try.prog.bytesOf 9 = 16 := by kernel_rfl

set_option maxRecDepth 100000 in
theorem headerValues_lifted (os : Os) (started : os.Started) (H : Type) (enc : TypeId × Value → H) :
    ReturnsInHanded {} Try.checked os 3 .any (Rows.headerValuesSpec.pre6 enc Try.prog Try.f3 Rows.headerValuesRow.domain false) (Rows.headerValuesSpec.post enc Try.prog Try.f3 false true false false) := by
  refine law_lifted (C := Try.checked) headerValues_own started (by kernel_rfl) Try.func3
    (ChangeSpec.witness6 (enc := enc) (C := Try.checked) false ⟨#[], #[.slice none 0 0, .slice none 0 0], []⟩ 8 (by kernel_rfl) (by kernel_rfl) (by kernel_rfl) (by kernel_rfl))
    (by kernel_rfl) (of_decide_eq_true (by kernel_rfl)) (tb := 4) (by kernel_rfl) Try.underlying4 rfl (fun ds h => by match ds, h with | [d0, d1], _ => exact ⟨rfl, rfl, rfl⟩) ?_
  intro W base args ds p hval0 hA0 hlt hsz0
  have hval : ∀ (j : Nat) t v, Try.f3.params[j]? = some t → args[j]? = some v → Value.okWide Try.prog W .any base t v := hval0
  have hA : DataW.TrodAll enc Try.prog W 0 (fun _ => true) true Try.f3.params.toList args.toList ds p := hA0
  have hsz : (DataW.weightsEach Try.prog Try.f3.params.toList ds).all (· ≤ reachBytes) = true := hsz0
  rw [Try.params3] at hA hval hsz
  obtain ⟨v0, vs0, d0, ds0, p0, q0, hargs, rfl, rfl, h0, r0⟩ := trodAll_cons hA
  obtain ⟨v1, vs1, d1, ds1, p1, q1, rfl, rfl, rfl, h1, r1⟩ := trodAll_cons r0
  obtain ⟨rfl, rfl, rfl⟩ := trodAll_nil r1
  obtain rfl : args = #[v0, v1] := by cases args; simp_all
  have s0 := sized_at hsz (j := 0) (t := 22) (d := d0) rfl rfl
  have s1 := sized_at hsz (j := 1) (t := 23) (d := d1) rfl rfl
  obtain ⟨m0_0, m0_1, t0⟩ := Try.fldTys
  obtain ⟨a0, g0, k0⟩ := open_flds t0 (hval 0 22 v0 rfl rfl) h0 s0
  obtain ⟨a1, g1, l1, z1⟩ := open_texts Try.underlying23 Try.underlying9 (by kernel_rfl) (hval 1 23 v1 rfl rfl) h1 s1
  rw [headerValues_bytesStr] at l1
  exact headerValues_any (w := W) a0 v0 g0 k0 v1 a1 g1 l1 z1

theorem headerValues_over : Rows.headerValuesRow.holds Try.pinned (OpenSpec.ofChange Rows.headerValuesSpec) :=
  OpenClaim.holds_of_wide 3 Try.f3 rfl rfl rfl rfl rfl rfl rfl ⟨rfl, rfl, rfl, rfl, rfl⟩ rfl rfl rfl rfl rfl (by kernel_rfl) Try.func3 (by kernel_rfl)
    (of_decide_eq_true (by kernel_rfl)) (by unfold Func.isWrapper; first | (rw [if_pos (by decide +kernel)]; kernel_rfl) | (rw [if_neg (by decide +kernel)]; exact ⟨rfl, rfl⟩))
    (fun os started H enc _ => headerValues_lifted os started H enc)

theorem headerValues_proved : Rows.HeaderValuesSaid := headerValues_over
#print axioms headerValues_proved

end Go.Proofs.Ytfgpcajjnpmoeaa
