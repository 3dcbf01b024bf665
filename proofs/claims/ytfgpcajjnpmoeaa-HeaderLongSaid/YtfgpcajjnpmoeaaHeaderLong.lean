/-
  HeaderLong: fields that need no leave alone need it, once they are too long together; the law returns true for all numbers, and what was there has not turned. No condition.
-/
import Derived.BigQuiet
import Derived.BigRegion
import Derived.Deep.RegionLaw
import Derived.Test.YtfgpcajjnpmoeaaProg
import Derived.Test.YtfgpcajjnpmoeaaKit
import Derived.Test.YtfgpcajjnpmoeaaLaw
import Derived.Test.YtfgpcajjnpmoeaaInfo
import Derived.Test.YtfgpcajjnpmoeaaRow
import Derived.Test.YtfgpcajjnpmoeaaRow2
import Derived.Test.YtfgpcajjnpmoeaaCod8
import Derived.Test.YtfgpcajjnpmoeaaStp
import Derived.Test.YtfgpcajjnpmoeaaRfd3
import Derived.Test.YtfgpcajjnpmoeaaHst1
import Derived.Test.YtfgpcajjnpmoeaaHdr0
import Derived.Test.YtfgpcajjnpmoeaaHdr14
import Derived.Test.YtfgpcajjnpmoeaaHdr16
import Derived.Test.YtfgpcajjnpmoeaaHdr17
import Derived.Test.YtfgpcajjnpmoeaaHdr19
import Derived.Test.YtfgpcajjnpmoeaaHdr20
namespace Go.Proofs.Ytfgpcajjnpmoeaa
open Go.ChangeShapes Go.WideShapes Go.ChangeAt Go.RowKit Go.Proofs
open Go.ChangeMaps (open_string shut_string)

theorem Try.infoFld2 : (Try.prog.info? 34).map (fun i => (i.zero, i.size, i.bytes)) = some (some (.agg #[.string ByteArray.empty, .string ByteArray.empty]), 2, 32) := by kernel_rfl

theorem Try.mk0 (w : World) : (Instr.makeSlice 39 (.int .i64 0) (.int .i64 0)).run Try.prog w = .ok (.slice (some ⟨w.heap.size, 0, none⟩) 0 0) (w.alloc (.cells #[] 5)) := by kernel_rfl

theorem rep_snoc2 {α : Type} (n : Nat) (x : α) : List.replicate (n + 1) x = List.replicate n x ++ [x] := List.replicate_succ'

set_option maxRecDepth 100000 in
set_option maxHeartbeats 4000000 in
theorem headerLong_any {w : World} (a : Int) (ha : -9223372036854775808 ≤ a ∧ a ≤ 9223372036854775807) (b : Int) (hb : -9223372036854775808 ≤ b ∧ b ≤ 9223372036854775807) :
    Calls Try.prog 7 #[.int .i64 a, .int .i64 b] w fun e w' => e = .returned (.bool true) ∧ Below w.heap.size w w' := by
  have HA := Lib.hid (fun W => hawake_any W)
  by_cases hgo : (0 ≤ a ∧ a ≤ 20) ∧ 0 ≤ b ∧ b ≤ 140
  · obtain ⟨⟨g1, g2⟩, g3, g4⟩ := hgo
    obtain ⟨n, rfl⟩ : ∃ n : Nat, a = n := ⟨a.toNat, by omega⟩
    obtain ⟨s, rfl⟩ : ∃ s : Nat, b = s := ⟨b.toNat, by omega⟩
    obtain ⟨L, hL⟩ : ∃ L : ByteArray, L = ⟨(manyL s).toArray⟩ := ⟨_, rfl⟩
    have HL : Hid (∀ W, Calls Try.prog 26 #[.int .i64 s] W fun e w' => e = .returned (.string L) ∧ Below W.heap.size W w') := Lib.hid (fun W => by rw [hL]; exact letters_any s (by omega) W)
    have HLL : Hid (L.data.toList = manyL s) := Lib.hid (by rw [hL])
    obtain ⟨i0, hi, hz0, hz1, hz2⟩ := info_parts Try.infoFld2
    obtain ⟨i1, hi1, hy0, hy1, hy2⟩ := info_parts Try.infoByte
    have hLs : L.size ≤ 140 := by rw [hL, mk_size]; unfold manyL; rw [List.length_replicate]; omega
    have kc0 : ∀ (W : World) (g c : Nat), (convert 39 9 (.slice (some ⟨g, 0, none⟩) 0 c)).run Try.prog W = .ok (.string ⟨#[]⟩) W := fun W g c => by
      rw [run_convert_bytes_arg W 39 5 Try.underlying39 Try.underlying5 g 0 0 c [] rfl (fun i hi => absurd hi (Nat.not_lt_zero _)) 9 Try.underlying9]
      rfl
    have hn6 : (n : Int) ≤ 20 := by omega
    clear hL ha hb
    go_enter Try.func7, Try.ntmps7
    go_wp2_with fail
    go_loopw [5, 6] (fun r i wr => ∃ (k : Nat) (rv : Value), k ≤ n ∧ i = .int .i64 k ∧ rv = r ∧ Hid (wr.ownsRow w.heap.size 34 2 rv (List.replicate k (⟨accS, ⟨#[]⟩ ++ L⟩ : FldM)).length (fldC (List.replicate k ⟨accS, ⟨#[]⟩ ++ L⟩))) ∧ Hid (Below w.heap.size w wr)) (fun _ i _ => n - (intOf i).toNat)
    case atStart => exact ⟨0, _, Nat.zero_le _, rfl, rfl, Lib.hid (World.ownsRow_nil _ _ _ _), Lib.hid (Below.refl _ _)⟩
    case round =>
      obtain ⟨k, r, hk, rfl, rfl, HO, HB⟩ := hrel
      obtain ⟨w1, hw1⟩ : ∃ w1 : World, w1 = wr := ⟨_, rfl⟩
      subst hw1
      by_cases hlt : k < n
      · have hki : (k : Int) < (n : Int) := by omega
        have hk6 : (k : Int) < 20 := by omega
        have HOW : Hid (∀ W, Below w1.heap.size w1 W → W.ownsRow w.heap.size 34 2 r (List.replicate k (⟨accS, ⟨#[]⟩ ++ L⟩ : FldM)).length (fldC (List.replicate k ⟨accS, ⟨#[]⟩ ++ L⟩))) := Lib.hid (fun W hW => own_below HO.out hW)
        have hB1 : Below w1.heap.size w1 w1.drew := below_draws (Below.refl _ _) ⟨1, rfl⟩
        have hkl : (List.replicate k (⟨accS, ⟨#[]⟩ ++ L⟩ : FldM)).length < 1000000 := by rw [List.length_replicate]; omega
        have hbs := HB.out.size
        go_wp2_with fail
        have hmk := Try.mk0
        have hLL : ¬ 9223372036854775807 < L.size := by omega
        have henter : Enters Try.prog 26 := enters_of Try.func26 (by kernel_rfl) rfl
        have HX : Hid (∀ W, Below w1.heap.size w1 W → (W.alloc (.cells #[.string accS, .string (⟨#[]⟩ ++ L)] 34)).ownsRow w.heap.size 34 2 r (List.replicate k (⟨accS, ⟨#[]⟩ ++ L⟩ : FldM)).length (fldC (List.replicate k ⟨accS, ⟨#[]⟩ ++ L⟩))) := Lib.hid (fun W hW => HOW.out _ (below_more hW _))
        have HNW : Hid (∀ (W : World) (j : Nat) (u : Value), [Value.string accS, .string (⟨#[]⟩ ++ L)][j]? = some u → (W.alloc (.cells #[.string accS, .string (⟨#[]⟩ ++ L)] 34)).cell? ((⟨W.heap.size, 0, none⟩ : Addr).add j) = some u) := Lib.hid (fun W j u hj => by
          rw [Addr.add_mid, Nat.zero_add]
          match j, hj with
          | 0, hj => simp at hj; subst hj; exact alloc_cell W _ _ _ 0
          | 1, hj => simp at hj; subst hj; exact alloc_cell W _ _ _ 1
          | j + 2, hj => simp at hj)
        have HBX : Hid (∀ W, Below w1.heap.size w1 W → w.heap.size ≤ (W.alloc (.cells #[.string accS, .string (⟨#[]⟩ ++ L)] 34)).heap.size) := Lib.hid (fun W hW => Nat.le_trans hbs (below_more hW _).size)
        have HFIN : Hid (∀ (W w5 : World) (v5 : Value), Below w1.heap.size w1 W → (W.alloc (.cells #[.string accS, .string (⟨#[]⟩ ++ L)] 34)).grownBy w5 r.ownBlock → Below w.heap.size w w5) := Lib.hid (fun W w5 v5 hW hg => (HB.out.trans ((below_more hW _).mono hbs)).trans (below_own_any (HX.out W hW) hg (HBX.out W hW)))
        have HONE : Hid (∀ u ∈ [Value.string accS, .string (⟨#[]⟩ ++ L)], u.oneCell' = true) := Lib.hid (fun u hu => by simp at hu; rcases hu with rfl | rfl <;> rfl)
        go_region_law (first
          | (refine step_call rfl 26 _ _ rfl #[.int .i64 s] (by simp [go_sem]) henter (HL.out (w1.drew.alloc (.cells #[] 5))) ?_; rintro e w3 ⟨rfl, hb3⟩; refine ⟨_, rfl, ?_⟩; have B3 := Lib.hid (below_then (below_more hB1 _) hb3); clear hb3)
          | (refine step_call rfl 26 _ _ rfl #[.int .i64 s] (by simp [go_sem]) henter (HL.out w1.drew) ?_; rintro e w3 ⟨rfl, hb3⟩; refine ⟨_, rfl, ?_⟩; have B3 := Lib.hid (below_then hB1 hb3); clear hb3)
          | (refine step_append_at rfl (.tmp 29) (.tmp 36) 22 rfl w.heap.size 34 i0 _ 2 32 Try.underlying22 hi hz0 hz1 hz2 rfl (by decide) r _ _ (by simp [Act.eval]) (HX.out w3 B3.out) ⟨w3.heap.size, 0, none⟩ 1 1 [.string accS, .string (⟨#[]⟩ ++ L)] (by simp [Act.eval]) rfl (HNW.out w3) HONE.out (by unfold maxLen; omega) (by omega) (HBX.out _ B3.out) ?_; intro v5 w5 o5 g5 l5; have B5 := Lib.hid (HFIN.out w3 w5 v5 B3.out g5.out))
          | (refine step_append_at rfl (.tmp 29) (.tmp 36) 22 rfl w.heap.size 34 i0 _ 2 32 Try.underlying22 hi hz0 hz1 hz2 rfl (by decide) r _ _ (by simp [Act.eval]) (HX.out (w3.alloc (.cells #[] 5)) (below_more B3.out _)) ⟨(w3.alloc (.cells #[] 5)).heap.size, 0, none⟩ 1 1 [.string accS, .string (⟨#[]⟩ ++ L)] (by simp [Act.eval]) rfl (HNW.out _) HONE.out (by unfold maxLen; omega) (by omega) (HBX.out _ (below_more B3.out _)) ?_; intro v5 w5 o5 g5 l5; have B5 := Lib.hid (HFIN.out _ w5 v5 (below_more B3.out _) g5.out))
          | fail)
        all_goals
          have HO5 : Hid (w5.ownsRow w.heap.size 34 2 v5 (List.replicate (k + 1) (⟨accS, ⟨#[]⟩ ++ L⟩ : FldM)).length (fldC (List.replicate (k + 1) ⟨accS, ⟨#[]⟩ ++ L⟩))) := Lib.hid (by
            rw [rep_snoc2, fldC_app, List.length_append]
            exact o5.out)
          clear o5 g5 l5
          go_wp2_with fail
          go_roundw
          case rel => exact ⟨k + 1, v5, by omega, by go_num, rfl, HO5, B5⟩
          case measure => simp [intOf]; omega
      · have hkn : k = n := by omega
        subst hkn
        obtain ⟨A, hA⟩ : ∃ A : ByteArray, A = ⟨#[]⟩ ++ L := ⟨_, rfl⟩
        have hAl : A.data.toList = manyL s := by rw [hA, happ, HLL.out]; rfl
        have hAs : A.size = s := by rw [← size_data, hAl]; unfold manyL; rw [List.length_replicate]
        rw [← hA] at HO
        have HFL := Lib.hid (flds_own HO.out)
        have HLV := Lib.hid (many_leave hAl k)
        have HTO : Hid (fldTot (List.replicate k (⟨accS, A⟩ : FldM)) ≤ 6000) := Lib.hid (by
          rw [many_tot]
          show k * (1 + 6 + A.size) ≤ 6000
          rw [hAs]
          have h1 : k ≤ 20 := by omega
          have h2 : 1 + 6 + s ≤ 147 := by omega
          have := Nat.mul_le_mul h1 h2
          omega)
        have HU := Lib.hid (unsafe_any _ _ w1 HFL.out HTO.out)
        obtain ⟨ra, rc, rfl⟩ := own_len HO.out
        rw [rep_len] at HU ⊢
        obtain ⟨M, hM⟩ : ∃ M, M = k * s := ⟨_, rfl⟩
        rw [← hM] at HLV
        have hMM : (k : Int) * (s : Int) = (M : Int) := by rw [hM]; exact (Int.natCast_mul k s).symm
        have hM6 : M ≤ 2800 := by rw [hM]; exact Nat.mul_le_mul (by omega : k ≤ 20) (by omega : s ≤ 140)
        have hM7 : (M : Int) < 3000 := by omega
        clear hA hAl hAs hM HO kc0
        go_wp2_with fail
        refine HU.out.mono ?_
        rintro e w2 ⟨⟨u, R, rfl, s2, a2, m2, l2⟩, hb2⟩
        have HB2 := Lib.hid (HB.out.trans (hb2.mono HB.out.size))
        by_cases hneed : 0 < k ∧ (128 < s ∨ 1024 < M)
        · obtain ⟨hk0, hss⟩ := hneed
          have hR : R = [accL] := asc_eq a2 (asc_one _) (fun x => by
            rw [m2, HLV.out, if_pos hss, List.mem_replicate, List.mem_singleton]
            exact ⟨fun h => h.2, fun h => ⟨by omega, h⟩⟩)
          subst hR
          obtain ⟨ua, uc, hu, hcs⟩ := s2
          rcases hcs with hnil | ⟨b, o, rfl, hat⟩
          · cases hnil
          have hu2 : u = .slice (some ⟨b, o, none⟩) 1 uc := hu
          subst hu2
          have hc0 : w2.cell? ⟨b, o, none⟩ = some (.string ⟨#[97, 99, 99, 101, 112, 116]⟩) := hat 0 _ rfl
          have hkp : 0 < k := hk0
          have hki0 : (0 : Int) < (k : Int) := by omega
          clear hat hb2 a2 m2 l2 hu
          rcases (by omega : 128 < s ∨ (¬ 128 < s ∧ 1024 < M)) with hs | ⟨hs, hm⟩
          · have hsi : (128 : Int) < (s : Int) := by omega
            clear hss hs
            go_wp2_with fail
            refine (HA.out _).mono ?_
            rintro e w3 ⟨rfl, hb3⟩
            have HB3 := Lib.hid (HB2.out.trans (hb3.mono HB2.out.size))
            clear hb3
            go_wp2_with fail
            go_ret
            exact ⟨rfl, HB3.out⟩
          · have hsi : ¬ (128 : Int) < (s : Int) := by omega
            have hmi : (1024 : Int) < (M : Int) := by omega
            clear hss hs hm
            go_wp2_with fail
            refine (HA.out _).mono ?_
            rintro e w3 ⟨rfl, hb3⟩
            have HB3 := Lib.hid (HB2.out.trans (hb3.mono HB2.out.size))
            clear hb3
            go_wp2_with fail
            go_ret
            exact ⟨rfl, HB3.out⟩
        · have hR : R = [] := asc_eq a2 List.Pairwise.nil (fun x => by
            rw [m2, HLV.out]
            by_cases h : 128 < s ∨ 1024 < M
            · have hk0 : k = 0 := by omega
              rw [if_pos h, hk0]
              simp
            · rw [if_neg h])
          subst hR
          obtain ⟨ua, uc, rfl⟩ := s2.empty
          clear hb2 a2 m2 l2 s2
          by_cases hk0 : k = 0
          · have hkf : (0 < k) = False := eq_false (by omega)
            have hkn0 : ¬ (0 : Int) < (k : Int) := by omega
            clear hneed
            go_wp2_with fail
            refine (HA.out _).mono ?_
            rintro e w3 ⟨rfl, hb3⟩
            have HB3 := Lib.hid (HB2.out.trans (hb3.mono HB2.out.size))
            clear hb3
            go_wp2_with fail
            go_ret
            exact ⟨rfl, HB3.out⟩
          · have hkp : 0 < k := by omega
            have hsi : ((128 : Int) < (s : Int)) = False := eq_false (by omega)
            have hmi : ((1024 : Int) < (M : Int)) = False := eq_false (by omega)
            clear hneed hk0
            go_wp2_with fail
            refine (HA.out _).mono ?_
            rintro e w3 ⟨rfl, hb3⟩
            have HB3 := Lib.hid (HB2.out.trans (hb3.mono HB2.out.size))
            clear hb3
            go_wp2_with fail
            go_ret
            exact ⟨rfl, HB3.out⟩
  · rcases (by omega : a < 0 ∨ (¬ a < 0 ∧ 20 < a) ∨ (¬ a < 0 ∧ ¬ 20 < a ∧ b < 0) ∨ (¬ a < 0 ∧ ¬ 20 < a ∧ ¬ b < 0 ∧ 140 < b)) with h | ⟨h1, h⟩ | ⟨h1, h2, h⟩ | ⟨h1, h2, h3, h⟩
    all_goals
      clear hgo
      go_enter Try.func7, Try.ntmps7
      go_wp2_with fail
      refine (HA.out _).mono ?_
      rintro e w3 ⟨rfl, hb3⟩
      go_wp2_with fail
      go_ret
      exact ⟨rfl, hb3⟩

theorem headerLong_own : ownKnob Try.prog.godebug = none := by kernel_rfl

set_option maxRecDepth 100000 in
theorem headerLong_lifted (os : Os) (started : os.Started) (H : Type) (enc : TypeId × Value → H) :
    ReturnsInHanded {} Try.checked os 7 .any (Rows.headerLongSpec.pre6 enc Try.prog Try.f7 Rows.headerLongRow.domain false) (Rows.headerLongSpec.post enc Try.prog Try.f7 false true false false) := by
  refine law_lifted (C := Try.checked) headerLong_own started (by kernel_rfl) Try.func7
    (ChangeSpec.witness6 (enc := enc) (C := Try.checked) false ⟨#[], #[.int .i64 0, .int .i64 0], []⟩ 8 (by kernel_rfl) (by kernel_rfl) (by kernel_rfl) (by kernel_rfl))
    (by kernel_rfl) (of_decide_eq_true (by kernel_rfl)) (tb := 4) (by kernel_rfl) Try.underlying4 rfl (fun ds h => by match ds, h with | [d0, d1], _ => exact ⟨rfl, rfl, rfl⟩) ?_
  intro W base args ds p hval0 hA0 hlt hsz0
  have hval : ∀ (j : Nat) t v, Try.f7.params[j]? = some t → args[j]? = some v → Value.okWide Try.prog W .any base t v := hval0
  have hA : DataW.TrodAll enc Try.prog W 0 (fun _ => true) true Try.f7.params.toList args.toList ds p := hA0
  have hsz : (DataW.weightsEach Try.prog Try.f7.params.toList ds).all (· ≤ reachBytes) = true := hsz0
  rw [Try.params7] at hA hval hsz
  obtain ⟨v0, vs0, d0, ds0, p0, q0, hargs, rfl, rfl, h0, r0⟩ := trodAll_cons hA
  obtain ⟨v1, vs1, d1, ds1, p1, q1, rfl, rfl, rfl, h1, r1⟩ := trodAll_cons r0
  obtain ⟨rfl, rfl, rfl⟩ := trodAll_nil r1
  obtain rfl : args = #[v0, v1] := by cases args; simp_all
  obtain ⟨a0, rfl, rfl, rfl, w0⟩ := open_int Try.underlying3 (hval 0 3 v0 rfl rfl) h0
  obtain ⟨a1, rfl, rfl, rfl, w1⟩ := open_int Try.underlying3 (hval 1 3 v1 rfl rfl) h1
  exact headerLong_any (w := W) a0 (bounds_i64 w0) a1 (bounds_i64 w1)

theorem headerLong_over : Rows.headerLongRow.holds Try.pinned (OpenSpec.ofChange Rows.headerLongSpec) :=
  OpenClaim.holds_of_wide 7 Try.f7 rfl rfl rfl rfl rfl rfl rfl ⟨rfl, rfl, rfl, rfl, rfl⟩ rfl rfl rfl rfl rfl (by kernel_rfl) Try.func7 (by kernel_rfl)
    (of_decide_eq_true (by kernel_rfl)) (by unfold Func.isWrapper; first | (rw [if_pos (by decide +kernel)]; kernel_rfl) | (rw [if_neg (by decide +kernel)]; exact ⟨rfl, rfl⟩))
    (fun os started H enc _ => headerLong_lifted os started H enc)

theorem headerLong_proved : Rows.HeaderLongSaid := headerLong_over
#print axioms headerLong_proved

end Go.Proofs.Ytfgpcajjnpmoeaa
