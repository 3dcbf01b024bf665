/-
  CspMany: as many directives as are written are told, in order, each with all of its sources; the law returns true for every list of numbers, and what was there has not turned. No condition.
-/
import Derived.BigRegion
import Derived.BigQuiet
import Derived.Deep.RegionHeld3
import Derived.Test.YtceajdpjablfiaaProg
import Derived.Test.YtceajdpjablfiaaKit
import Derived.Test.YtceajdpjablfiaaLaw
import Derived.Test.YtceajdpjablfiaaPlain
import Derived.Test.YtceajdpjablfiaaAsc4
import Derived.Test.YtceajdpjablfiaaRow
import Derived.Test.YtceajdpjablfiaaRow2
import Derived.Test.YtceajdpjablfiaaCod8
import Derived.Test.YtceajdpjablfiaaDsk14
import Derived.Test.YtceajdpjablfiaaDsk20
import Derived.Test.YtceajdpjablfiaaHsu0
import Derived.Test.YtceajdpjablfiaaUrl9
import Derived.Test.YtceajdpjablfiaaOrg13
import Derived.Test.YtceajdpjablfiaaHdr17
import Derived.Test.YtceajdpjablfiaaCsp0
import Derived.Test.YtceajdpjablfiaaCsp1
import Derived.Test.YtceajdpjablfiaaCsp3
import Derived.Test.YtceajdpjablfiaaCsp4
import Derived.Test.YtceajdpjablfiaaCsp7
import Derived.Test.YtceajdpjablfiaaCsp9
namespace Go.Proofs.Ytceajdpjablfiaa
open Go.ChangeShapes Go.WideShapes Go.ChangeAt Go.RowKit Go.Proofs
open Go.ChangeMaps (open_string shut_string)

set_option maxRecDepth 100000 in
set_option maxHeartbeats 4000000 in
theorem cspMany_any (v : Value) (ps : List Int) {w : World} (hp : PickAt w v ps) (hri : RangeI ps) :
    Calls Try.prog 7 #[v] w fun e w' => e = .returned (.bool true) ∧ Below w.heap.size w w' := by
  have HAW := Lib.hid (fun W => cawake_any W)
  obtain ⟨a, c, rfl, _, hcells⟩ := hp
  obtain ⟨n, hn⟩ : ∃ n, n = ps.length := ⟨_, rfl⟩
  have HNN := Lib.hid hn
  have HCE := Lib.hid hcells
  have HRI := Lib.hid hri.1
  have hnb : (n : Int) < 9223372036854775807 := by have := hri.2; omega
  rw [← hn]
  clear hcells hri hn
  by_cases hlong : 20 < n
  · have hl : (20 : Int) < (n : Int) := by omega
    clear hlong
    go_enter Try.func7, Try.ntmps7
    go_wp2_with fail
    refine (HAW.out _).mono ?_
    rintro e w1 ⟨rfl, hb1⟩
    go_wp2_with fail
    go_ret
    exact ⟨rfl, hb1⟩
  · have hl : ¬ (20 : Int) < (n : Int) := by omega
    have HN20 : Hid (n ≤ 20) := Lib.hid (by omega)
    obtain ⟨ns, hns⟩ : ∃ ns, ns = ps.map (fun p => rndN p 5) := ⟨_, rfl⟩
    have HNL : Hid (ns.length = n) := Lib.hid (by rw [hns, List.length_map, HNN.out])
    have HN5 : Hid (∀ r ∈ ns, r < 5) := Lib.hid (fun r hr => by
      rw [hns] at hr
      obtain ⟨p, _, rfl⟩ := List.mem_map.1 hr
      exact rnd_lt p 5 (by decide))
    have HPS : Hid (∀ k, k < n → ∃ (p : Int) (r b o : Nat), ns[k]? = some r ∧ a = some ⟨b, o, none⟩ ∧ w.cell? ⟨b, o + k, none⟩ = some (.int .i64 p) ∧ ∀ W, Calls Try.prog 20 #[.int .i64 p, .int .i64 5] W fun e w' => e = .returned (.int .i64 (r : Nat)) ∧ w' = W) := Lib.hid (fun k hk => by
      obtain ⟨p, hpk⟩ : ∃ p, ps[k]? = some p := ⟨_, List.getElem?_eq_getElem (by rw [← HNN.out]; exact hk)⟩
      rcases HCE.out with h | ⟨b, o, ha, hat⟩
      · rw [h] at hpk; simp at hpk
      · refine ⟨p, rndN p 5, b, o, by rw [hns, List.getElem?_map, hpk]; rfl, ha, hat k p hpk, fun W => ?_⟩
        exact round_is p 5 W (HRI.out p (List.mem_of_getElem? hpk)) (by decide))
    clear hlong hns hnb
    go_enter Try.func7, Try.ntmps7
    go_wp2_with fail
    clear hl
    go_loopw [3, 4] (fun t j wr => ∃ (k : Nat) (T : ByteArray), k ≤ n ∧ j = .int .i64 k ∧ t = .string T ∧ Hid (T.data.toList = manyS (ns.take k) 0) ∧ Hid (Below w.heap.size w wr)) (fun _ j _ => n - (intOf j).toNat)
    case atStart => exact ⟨0, ⟨#[]⟩, Nat.zero_le _, rfl, rfl, Lib.hid rfl, Lib.hid (Below.refl _ _)⟩
    case round =>
      obtain ⟨k, T, hk, rfl, rfl, HT, HB⟩ := hrel
      obtain ⟨w1, hw1⟩ : ∃ w1 : World, w1 = wr := ⟨_, rfl⟩
      subst hw1
      have hTs : T.size ≤ 400 := by
        rw [← size_data, HT.out]
        have h1 := manyS_len (ns.take k) 0 (fun r hr => HN5.out r (List.mem_of_mem_take hr))
        have h2 := List.length_take_le k ns
        have h3 := HN20.out
        omega
      by_cases hlt : k < n
      · obtain ⟨p, r, b, o, hnk, rfl, hc0, hrnd⟩ := HPS.out k hlt
        have HRN := Lib.hid hrnd
        have HC0 := Lib.hid hc0
        have HNK := Lib.hid hnk
        have HKN := Lib.hid hlt
        have hr5 : r < 5 := HN5.out r (List.mem_of_getElem? hnk)
        have HR5 := Lib.hid hr5
        have hki : (k : Int) < (n : Int) := by omega
        have hk20 : (k : Int) < 20 := by have := HN20.out; omega
        have HKI := Lib.hid (And.intro hki hk20)
        obtain ⟨x, hx⟩ : ∃ x, x = UInt8.ofNat (97 + k) := ⟨_, rfl⟩
        have hxn : x.toNat = 97 + k := by rw [hx, UInt8.toNat_ofNat']; omega
        have kc := conv_one x w1 (w1.alloc (.cells #[.int .u8 x.toNat] 5)) (Below.refl _ _)
        have HB4 := Lib.hid (below_more HB.out (.cells #[.int .u8 x.toNat] 5))
        have hx0 := byte_bd x
        obtain ⟨xz, hxz⟩ : ∃ xz : Int, xz = (x.toNat : Int) := ⟨_, rfl⟩
        have hxv : (97 : Int) + (k : Int) = xz := by omega
        rw [← hxz] at hx0 kc HB4
        have hs1 : (T ++ ⟨#[32, 100]⟩ : ByteArray).size ≤ 402 := by rw [ByteArray.size_append]; show T.size + 2 ≤ 402; omega
        obtain ⟨T1, hT1⟩ : ∃ T1 : ByteArray, T1 = T ++ ⟨#[32, 100]⟩ ++ ⟨#[x]⟩ := ⟨_, rfl⟩
        have HT1 : Hid (T1.data.toList = manyS (ns.take k) 0 ++ 32 :: nmL k) := Lib.hid (by
          rw [hT1, happ, happ, HT.out]
          unfold nmL
          rw [← hx]
          simp)
        have HTL : Hid (ns.take k = ns.take k ∧ (ns.take k).length = k) := Lib.hid ⟨rfl, by rw [List.length_take, HNL.out]; omega⟩
        have HTK := Lib.hid (take_succ_of hnk)
        clear hnk hrnd hlt hk hc0 hxz hxn hx hr5
        go_wp2_with fail
        rw [← hT1]
        clear hT1 hki hk20 hx0 hxv hs1 hTs kc
        go_loopw [3, 5] (fun t j wr => ∃ (i : Nat) (T2 : ByteArray), i ≤ r ∧ j = .int .i64 i ∧ t = .string T2 ∧ Hid (T2.data.toList = manyS (ns.take k) 0 ++ 32 :: nmL k ++ tailL i) ∧ Hid (Below w.heap.size w wr)) (fun _ j _ => r - (intOf j).toNat)
        case atStart => exact ⟨0, T1, Nat.zero_le _, rfl, rfl, Lib.hid (by rw [HT1.out]; simp [tailL]), HB4⟩
        case round =>
          obtain ⟨i, T2, hi9, rfl, rfl, HT2, HB2⟩ := hrel
          obtain ⟨w2, hw2⟩ : ∃ w2 : World, w2 = wr := ⟨_, rfl⟩
          subst hw2
          have hT2s : T2.size ≤ 420 := by
            rw [← size_data, HT2.out]
            have h1 := manyS_len (ns.take k) 0 (fun q hq => HN5.out q (List.mem_of_mem_take hq))
            have h2 := HTL.out.2
            have h3 := HN20.out
            have h4 := tail_len i
            have h5 := HKN.out
            have h6 := HR5.out
            simp only [List.length_append, List.length_cons, nmL, List.length_nil]
            omega
          have c2 : w2.cell? ⟨b, o + k, none⟩ = some (.int .i64 p) := cell_stays HC0.out HB2.out
          have hki := HKI.out.1
          have hk20 := HKI.out.2
          by_cases hir : i < r
          · have hii : (i : Int) < (r : Int) := by omega
            have hi5 : (i : Int) < 5 := by have := HR5.out; omega
            obtain ⟨x, hx⟩ : ∃ x, x = UInt8.ofNat (48 + i) := ⟨_, rfl⟩
            have hxn : x.toNat = 48 + i := by rw [hx, UInt8.toNat_ofNat']; omega
            have kc := conv_one x w2 (w2.alloc (.cells #[.int .u8 x.toNat] 5)) (Below.refl _ _)
            have HB5 := Lib.hid (below_more HB2.out (.cells #[.int .u8 x.toNat] 5))
            have hx0 := byte_bd x
            obtain ⟨xz, hxz⟩ : ∃ xz : Int, xz = (x.toNat : Int) := ⟨_, rfl⟩
            have hxv : (48 : Int) + (i : Int) = xz := by omega
            rw [← hxz] at hx0 kc HB5
            have hs1 : (T2 ++ ⟨#[9, 120]⟩ : ByteArray).size ≤ 422 := by rw [ByteArray.size_append]; show T2.size + 2 ≤ 422; omega
            have HT3 : Hid ((T2 ++ ⟨#[9, 120]⟩ ++ ⟨#[x]⟩ : ByteArray).data.toList = manyS (ns.take k) 0 ++ 32 :: nmL k ++ tailL (i + 1)) := Lib.hid (by
              rw [happ, happ, HT2.out, tail_succ, hx]
              simp)
            have HIR := Lib.hid hir
            clear hir hi9 hxz hxn hx
            go_wp2_with fail
            refine (HRN.out _).mono ?_
            rintro e w3 ⟨rfl, rfl⟩
            go_wp2_with fail
            go_roundw
            case rel => exact ⟨i + 1, _, HIR.out, by go_num, rfl, HT3, HB5⟩
            case measure => have := HIR.out; simp [intOf]; omega
          · have hii : ¬ (i : Int) < (r : Int) := by omega
            have HIR : Hid (i = r) := Lib.hid (by omega)
            have HT3 : Hid ((T2 ++ ⟨#[32, 59]⟩ : ByteArray).data.toList = manyS (ns.take (k + 1)) 0) := Lib.hid (by
              rw [HTK.out, manyS_snoc, HTL.out.2, happ, HT2.out, HIR.out]
              unfold itL
              simp)
            clear hir hi9
            go_wp2_with fail
            refine (HRN.out _).mono ?_
            rintro e w3 ⟨rfl, rfl⟩
            go_wp2_with fail
            go_roundw
            case rel => exact ⟨k + 1, _, HKN.out, by go_num, rfl, HT3, HB2⟩
            case measure => have := HKN.out; simp [intOf]; omega
      · have HE : Hid (ns.take k = ns) := Lib.hid (List.take_of_length_le (by have := HNL.out; omega))
        have hp := fun W => cparse_any T (by omega) W
        rw [HT.out, HE.out, many_csp ns (by have := HNL.out; have := HN20.out; omega) HN5.out] at hp
        obtain ⟨ds, hds⟩ : ∃ ds, ds = manyD ns 0 := ⟨_, rfl⟩
        rw [← hds] at hp
        have HP := Lib.hid hp
        have HDS := Lib.hid hds
        have HDL : Hid (ds.length = n) := Lib.hid (by rw [hds, many_len, HNL.out])
        clear hp hds hk
        go_wp2_with fail
        refine (HP.out _).mono ?_
        rintro e w2 ⟨⟨v2, rfl, o2⟩, hb2⟩
        obtain ⟨va, vc, rfl⟩ := ownD_len o2
        have O2 := Lib.hid (ownD_at o2)
        have B2 := Lib.hid (below_then HB.out hb2)
        rw [HDL.out] at O2 ⊢
        have hne : ((n : Int) != (n : Int)) = false := by simp
        clear o2 hb2 hTs
        go_wp2_with fail
        clear hne
        go_loopw [7] (fun j wr => ∃ k : Nat, k ≤ n ∧ j = .int .i64 k ∧ Hid (Below w2.heap.size w2 wr)) (fun j _ => n - (intOf j).toNat)
        case atStart => exact ⟨0, Nat.zero_le _, rfl, Lib.hid (Below.refl _ _)⟩
        case round =>
          obtain ⟨k, hk, rfl, HB3⟩ := hrel
          obtain ⟨w3, hw3⟩ : ∃ w3 : World, w3 = wr := ⟨_, rfl⟩
          subst hw3
          by_cases hlt : k < n
          · obtain ⟨p, r, b, o, hnk, rfl, hc0, hrnd⟩ := HPS.out k hlt
            have HRL : Hid (r < 5) := Lib.hid (HN5.out r (List.mem_of_getElem? hnk))
            have hdk : ds[k]? = some ⟨nmL k, srcsL r⟩ := by
              have h := many_at ns 0 k r hnk
              rw [Nat.zero_add, ← HDS.out] at h
              exact h
            have hall := dirs_below O2.out HB3.out
            obtain ⟨bv, ov, cv, hvv, d0, ud, d1, hsd⟩ := dirs_at hall hdk
            injection hvv with e1 e2 e3
            subst e1 e3
            clear e2
            obtain ⟨da, dc, rfl⟩ := strSl_len hsd
            obtain ⟨x, hx⟩ : ∃ x, x = UInt8.ofNat (97 + k) := ⟨_, rfl⟩
            have hk20' : k < 20 := by have := HN20.out; omega
            have hxn : x.toNat = 97 + k := by rw [hx, UInt8.toNat_ofNat']; omega
            obtain ⟨X, hX⟩ : ∃ X : ByteArray, X.data.toList = nmL k := ⟨⟨(nmL k).toArray⟩, rfl⟩
            dsimp only at d0 d1 hsd
            rw [strL_of hX] at d0
            rw [srcs_len] at d1 hsd
            have y : (X.toList == (⟨#[100]⟩ ++ ⟨#[x]⟩ : ByteArray).toList) = true := txt_eq (by
              rw [hX, happ]
              unfold nmL
              rw [← hx]
              rfl)
            have kc := conv_one x w3 (w3.alloc (.cells #[.int .u8 x.toNat] 5)).drew (below_draws (Below.refl _ _) ⟨1, rfl⟩)
            have hb4 := below_more (Below.refl w3.heap.size w3) (.cells #[.int .u8 x.toNat] 5)
            have HB4 := Lib.hid (below_draws hb4 ⟨1, rfl⟩)
            have c3 : w3.cell? ⟨b, o + k, none⟩ = some (.int .i64 p) := cell_stays hc0 (below_then B2.out HB3.out)
            have c4 := cell_stays c3 hb4
            have d4 := cell_stays d0 hb4
            have d5 := cell_stays d1 hb4
            have hx0 := byte_bd x
            obtain ⟨xz, hxz⟩ : ∃ xz : Int, xz = (x.toNat : Int) := ⟨_, rfl⟩
            have hxv : (97 : Int) + (k : Int) = xz := by omega
            rw [← hxz] at hx0 kc hb4 HB4 c4 d4 d5
            have hw1 : IntKind.i64.wrap xz = xz := by rw [IntKind.wrap_i64]; omega
            have hw2 : IntKind.u8.wrap xz = xz := by rw [IntKind.wrap_u8]; omega
            have hki : (k : Int) < (n : Int) := by omega
            have hk20 : (k : Int) < 20 := by omega
            have HKN := Lib.hid hlt
            have HRN := Lib.hid hrnd
            have HSD := Lib.hid hsd
            have HD01 := Lib.hid (And.intro d0 d1)
            have HALL := Lib.hid hall
            have HXN := Lib.hid hX
            have HDK := Lib.hid hdk
            have hre : ((r : Int) != (r : Int)) = false := by simp
            have henter : Enters Try.prog 20 := enters_of Try.func20 (by kernel_rfl) rfl
            clear hnk hrnd hdk hall hsd hc0 hxz hxn hx hk20' hlt hk hX hb4
            go_wp2_with fail
            have S0 : w3.drew.cell? ⟨bv, ov + k * 2, none⟩ = some (.string X) ∧ w3.drew.cell? ⟨bv, ov + k * 2 + 1, none⟩ = some (.slice da r dc) ∧ w3.drew.cell? ⟨b, o + k, none⟩ = some (.int .i64 p) := ⟨d0, d1, c3⟩
            have S1 : (w3.alloc (.cells #[.int .u8 xz] 5)).drew.cell? ⟨bv, ov + k * 2, none⟩ = some (.string X) ∧ (w3.alloc (.cells #[.int .u8 xz] 5)).drew.cell? ⟨bv, ov + k * 2 + 1, none⟩ = some (.slice da r dc) ∧ (w3.alloc (.cells #[.int .u8 xz] 5)).drew.cell? ⟨b, o + k, none⟩ = some (.int .i64 p) := ⟨d4, d5, c4⟩
            clear d0 d1 c3 d4 d5 c4
            refine wp_region_held_drew (S := fun W => W.cell? ⟨bv, ov + k * 2, none⟩ = some (.string X) ∧ W.cell? ⟨bv, ov + k * 2 + 1, none⟩ = some (.slice da r dc) ∧ W.cell? ⟨b, o + k, none⟩ = some (.int .i64 p)) (by kernel_rfl) S0 (fun _ => ?_)
            refine otake_op 0 (v := ?v0) rfl rfl (by kernel_rfl) (by kernel_rfl) (by kernel_rfl) (fun _ _ _ h => h) (Or.inl ⟨by rfl, ?hy0⟩) (by assumption) ?rest0
            case hy0 => (intro w hSw; (try dsimp only at hSw); go_simp; try with_reducible rfl)
            try simp only [List.setIfInBounds_toArray, List.set_cons_zero, List.set_cons_succ]
            refine otake_op 1 (v := ?v1) rfl rfl (by kernel_rfl) (by kernel_rfl) (by kernel_rfl) (fun _ _ _ h => h) (Or.inl ⟨by rfl, ?hy1⟩) (by assumption) ?rest1
            case hy1 => (intro w hSw; (try dsimp only at hSw); go_simp; try with_reducible rfl)
            try simp only [List.setIfInBounds_toArray, List.set_cons_zero, List.set_cons_succ]
            refine otake_op 2 (v := ?v2) rfl rfl (by kernel_rfl) (by kernel_rfl) (by kernel_rfl) (fun _ _ _ h => h) (Or.inl ⟨by rfl, ?hy2⟩) (by assumption) ?rest2
            case hy2 => (intro w hSw; (try dsimp only at hSw); go_simp; try with_reducible rfl)
            try simp only [List.setIfInBounds_toArray, List.set_cons_zero, List.set_cons_succ]
            refine otake_op 3 (v := ?v3) rfl rfl (by kernel_rfl) (by kernel_rfl) (by kernel_rfl) (fun _ _ _ h => h) (Or.inl ⟨by rfl, ?hy3⟩) (by assumption) ?rest3
            case hy3 => (intro w hSw; (try dsimp only at hSw); go_simp; try with_reducible rfl)
            try simp only [List.setIfInBounds_toArray, List.set_cons_zero, List.set_cons_succ]
            refine otake_op 4 (v := ?v4) rfl rfl (by kernel_rfl) (by kernel_rfl) (by kernel_rfl) (fun _ _ _ h => h) (Or.inl ⟨by rfl, ?hy4⟩) (by assumption) ?rest4
            case hy4 => (intro w hSw; (try dsimp only at hSw); go_simp; try with_reducible rfl)
            try simp only [List.setIfInBounds_toArray, List.set_cons_zero, List.set_cons_succ]
            refine otake_op 5 (v := ?v5) rfl rfl (by kernel_rfl) (by kernel_rfl) (by kernel_rfl) (fun _ _ _ h => h) (Or.inl ⟨by rfl, ?hy5⟩) (by assumption) ?rest5
            case hy5 => (intro w hSw; (try dsimp only at hSw); go_simp; try with_reducible rfl)
            try simp only [List.setIfInBounds_toArray, List.set_cons_zero, List.set_cons_succ]
            refine otake_op 6 (v := ?v6) rfl rfl (by kernel_rfl) (by kernel_rfl) (by kernel_rfl) (fun _ _ _ h => h) (Or.inl ⟨by rfl, ?hy6⟩) (by assumption) ?rest6
            case hy6 => (intro w hSw; (try dsimp only at hSw); go_simp; try with_reducible rfl)
            try simp only [List.setIfInBounds_toArray, List.set_cons_zero, List.set_cons_succ]
            refine otake_op 7 (v := ?v7) rfl rfl (by kernel_rfl) (by kernel_rfl) (by kernel_rfl) (fun _ _ _ h => h) (Or.inl ⟨by rfl, ?hy7⟩) (by assumption) ?rest7
            case hy7 => (intro w hSw; (try dsimp only at hSw); go_simp; try with_reducible rfl)
            try simp only [List.setIfInBounds_toArray, List.set_cons_zero, List.set_cons_succ]
            refine wpAnyH_ready (rs := [8]) (by kernel_rfl) (by simp) ?_
            refine AllReadyH.cons (oop_at (o := _) rfl) (fun K hK => ?_) ?_
            · go_simp
              refine hK.out _ _ S1 (fun hHeld => ?_)
              clear hK K hHeld
              try simp only [Act.put, List.setIfInBounds_toArray, List.set_cons_zero, List.set_cons_succ]
              refine wpAnyH_ready (rs := [9]) (by kernel_rfl) (by simp) ?_
              refine AllReadyH.cons (oop_at (o := _) rfl) (fun K hK => ?_) ?_
              · go_simp
                refine hK.out _ _ S1 (fun hHeld => ?_)
                clear hK K hHeld
                try simp only [Act.put, List.setIfInBounds_toArray, List.set_cons_zero, List.set_cons_succ]
                refine otake_op 10 (v := ?v10) rfl rfl (by kernel_rfl) (by kernel_rfl) (by kernel_rfl) (fun _ _ _ h => h) (Or.inl ⟨by rfl, ?hy10⟩) (by assumption) ?rest10
                case hy10 => (intro w hSw; (try dsimp only at hSw); go_simp; try with_reducible rfl)
                try simp only [List.setIfInBounds_toArray, List.set_cons_zero, List.set_cons_succ]
                refine otake_op 11 (v := ?v11) rfl rfl (by kernel_rfl) (by kernel_rfl) (by kernel_rfl) (fun _ _ _ h => h) (Or.inl ⟨by rfl, ?hy11⟩) (by assumption) ?rest11
                case hy11 => (intro w hSw; (try dsimp only at hSw); go_simp; try with_reducible rfl)
                try simp only [List.setIfInBounds_toArray, List.set_cons_zero, List.set_cons_succ]
                refine otake_op 12 (v := ?v12) rfl rfl (by kernel_rfl) (by kernel_rfl) (by kernel_rfl) (fun _ _ _ h => h) (Or.inl ⟨by rfl, ?hy12⟩) (by assumption) ?rest12
                case hy12 => (intro w hSw; (try dsimp only at hSw); go_simp; try with_reducible rfl)
                try simp only [List.setIfInBounds_toArray, List.set_cons_zero, List.set_cons_succ]
                refine otake_op 13 (v := ?v13) rfl rfl (by kernel_rfl) (by kernel_rfl) (by kernel_rfl) (fun _ _ _ h => h) (Or.inl ⟨by rfl, ?hy13⟩) (by assumption) ?rest13
                case hy13 => (intro w hSw; (try dsimp only at hSw); go_simp; try with_reducible rfl)
                try simp only [List.setIfInBounds_toArray, List.set_cons_zero, List.set_cons_succ]
                refine otake_op 14 (v := ?v14) rfl rfl (by kernel_rfl) (by kernel_rfl) (by kernel_rfl) (fun _ _ _ h => h) (Or.inl ⟨by rfl, ?hy14⟩) (by assumption) ?rest14
                case hy14 => (intro w hSw; (try dsimp only at hSw); go_simp; try with_reducible rfl)
                try simp only [List.setIfInBounds_toArray, List.set_cons_zero, List.set_cons_succ]
                refine otake_op 15 (v := ?v15) rfl rfl (by kernel_rfl) (by kernel_rfl) (by kernel_rfl) (fun _ _ _ h => h) (Or.inl ⟨by rfl, ?hy15⟩) (by assumption) ?rest15
                case hy15 => (intro w hSw; (try dsimp only at hSw); go_simp; try with_reducible rfl)
                try simp only [List.setIfInBounds_toArray, List.set_cons_zero, List.set_cons_succ]
                refine otake_op 16 (v := ?v16) rfl rfl (by kernel_rfl) (by kernel_rfl) (by kernel_rfl) (fun _ _ _ h => h) (Or.inl ⟨by rfl, ?hy16⟩) (by assumption) ?rest16
                case hy16 => (intro w hSw; (try dsimp only at hSw); go_simp; try with_reducible rfl)
                try simp only [List.setIfInBounds_toArray, List.set_cons_zero, List.set_cons_succ]
                refine otake_op 17 (v := ?v17) rfl rfl (by kernel_rfl) (by kernel_rfl) (by kernel_rfl) (fun _ _ _ h => h) (Or.inl ⟨by rfl, ?hy17⟩) (by assumption) ?rest17
                case hy17 => (intro w hSw; (try dsimp only at hSw); go_simp; try with_reducible rfl)
                try simp only [List.setIfInBounds_toArray, List.set_cons_zero, List.set_cons_succ]
                refine otake_op 18 (v := ?v18) rfl rfl (by kernel_rfl) (by kernel_rfl) (by kernel_rfl) (fun _ _ _ h => h) (Or.inl ⟨by rfl, ?hy18⟩) (by assumption) ?rest18
                case hy18 => (intro w hSw; (try dsimp only at hSw); go_simp; try with_reducible rfl)
                try simp only [List.setIfInBounds_toArray, List.set_cons_zero, List.set_cons_succ]
                refine otake_op 19 (v := ?v19) rfl rfl (by kernel_rfl) (by kernel_rfl) (by kernel_rfl) (fun _ _ _ h => h) (Or.inl ⟨by rfl, ?hy19⟩) (by assumption) ?rest19
                case hy19 => (intro w hSw; (try dsimp only at hSw); go_simp; try with_reducible rfl)
                try simp only [List.setIfInBounds_toArray, List.set_cons_zero, List.set_cons_succ]
                refine otake_op 20 (v := ?v20) rfl rfl (by kernel_rfl) (by kernel_rfl) (by kernel_rfl) (fun _ _ _ h => h) (Or.inl ⟨by rfl, ?hy20⟩) (by assumption) ?rest20
                case hy20 => (intro w hSw; (try dsimp only at hSw); go_simp; try with_reducible rfl)
                try simp only [List.setIfInBounds_toArray, List.set_cons_zero, List.set_cons_succ]
                refine otake_op 21 (v := ?v21) rfl rfl (by kernel_rfl) (by kernel_rfl) (by kernel_rfl) (fun _ _ _ h => h) (Or.inl ⟨by rfl, ?hy21⟩) (by assumption) ?rest21
                case hy21 => (intro w hSw; (try dsimp only at hSw); go_simp; try with_reducible rfl)
                try simp only [List.setIfInBounds_toArray, List.set_cons_zero, List.set_cons_succ]
                refine otake_op 22 (v := ?v22) rfl rfl (by kernel_rfl) (by kernel_rfl) (by kernel_rfl) (fun _ _ _ h => h) (Or.inl ⟨by rfl, ?hy22⟩) (by assumption) ?rest22
                case hy22 => (intro w hSw; (try dsimp only at hSw); go_simp; try with_reducible rfl)
                try simp only [List.setIfInBounds_toArray, List.set_cons_zero, List.set_cons_succ]
                refine wpAnyH_ready (rs := [23]) (by kernel_rfl) (by simp) ?_
                refine AllReadyH.cons (oop_at (o := _) rfl) (fun K hK => ?_) ?_
                · first | (go_at_call 20; refine (HRN.out _).mono ?_; rintro e w5 ⟨rfl, rfl⟩) | (go_simp; go_at_call 20; refine (HRN.out _).mono ?_; rintro e w5 ⟨rfl, rfl⟩)
                  refine hK.out _ _ S1 (fun hHeld => ?_)
                  clear hK K hHeld
                  try simp only [Act.put, List.setIfInBounds_toArray, List.set_cons_zero, List.set_cons_succ]
                  refine otake_op 24 (v := ?v24) rfl rfl (by kernel_rfl) (by kernel_rfl) (by kernel_rfl) (fun _ _ _ h => h) (Or.inl ⟨by rfl, ?hy24⟩) (by assumption) ?rest24
                  case hy24 => (intro w hSw; (try dsimp only at hSw); go_simp; try with_reducible rfl)
                  try simp only [List.setIfInBounds_toArray, List.set_cons_zero, List.set_cons_succ]
                  refine otake_op 25 (v := ?v25) rfl rfl (by kernel_rfl) (by kernel_rfl) (by kernel_rfl) (fun _ _ _ h => h) (Or.inl ⟨by rfl, ?hy25⟩) (by assumption) ?rest25
                  case hy25 => (intro w hSw; (try dsimp only at hSw); go_simp; try with_reducible rfl)
                  try simp only [List.setIfInBounds_toArray, List.set_cons_zero, List.set_cons_succ]
                  refine wpAnyH_done (by kernel_rfl) ?_ _
                  obtain ⟨w5, hw5⟩ : ∃ w5 : World, w5 = (w3.alloc (.cells #[.int .u8 xz] 5)).drew := ⟨_, rfl⟩
                  have d5 := S1.1
                  have d6 := S1.2.1
                  have hb5 : Below w3.heap.size w3 (w3.alloc (.cells #[.int .u8 xz] 5)).drew := HB4.out
                  rw [← hw5] at d5 d6 hb5 ⊢
                  have HB5 := Lib.hid (below_then HB3.out hb5)
                  have HS5 := Lib.hid (strSl_below HSD.out hb5)
                  have HD5 := Lib.hid (And.intro d5 d6)
                  have HPK : Hid (cpickO ds [[110, 111, 110, 101], nmL k, [100, 97]] = some ⟨nmL k, srcsL r⟩) := Lib.hid (by
                    have h := HDK.out
                    rw [HDS.out] at h ⊢
                    exact many_pick (by have := HNL.out; have := HN20.out; omega) h [[100, 97]])
                  have HTD : Hid (dirsN ds ≤ 400) := Lib.hid (by
                    rw [HDS.out]
                    have h1 := many_tot ns 0 HN5.out
                    have h2 := HNL.out
                    have h3 := HN20.out
                    omega)
                  have HR5 := HRL
                  have HFD : Hid (∀ (W : World) (u : Value), Below w2.heap.size w2 W → SliceAt W u [.string ⟨#[110, 111, 110, 101]⟩, .string X, .string ⟨#[100, 97]⟩] → Calls Try.prog 15 #[.slice (some ⟨bv, ov, none⟩) n vc, u] W fun e w' => (∃ a c, e = .returned (.tuple #[.agg #[.string X, .slice a r c], .bool true]) ∧ StrSl w' (.slice a r c) (srcsL r)) ∧ Below W.heap.size W w') := Lib.hid (fun W u hb hu => by
                    have h := cfindv_any ds (.slice (some ⟨bv, ov, none⟩) n vc) [[110, 111, 110, 101], nmL k, [100, 97]] u W (dirs_below O2.out hb) (by
                      rw [List.map_cons, List.map_cons, List.map_cons, List.map_nil, strL_of HXN.out]
                      exact hu) (by have := HDL.out; have := HN20.out; omega) (by simp) (by have := HTD.out; omega)
                    rw [HPK.out] at h
                    refine h.mono ?_
                    rintro e w' ⟨⟨a, c, he, hs⟩, hb2⟩
                    have e1 : (some (⟨nmL k, srcsL r⟩ : DirM)).getD zeroM = ⟨nmL k, srcsL r⟩ := rfl
                    rw [e1] at he hs
                    dsimp only at he hs
                    rw [strL_of HXN.out, srcs_len] at he
                    rw [srcs_len] at hs
                    exact ⟨⟨a, c, he, hs⟩, hb2⟩)
                  have HAL : Hid (∀ (W : World) (a b : Option Addr) (ca cb : Nat), StrSl W (.slice a r ca) (srcsL r) → StrSl W (.slice b r cb) (srcsL r) → Calls Try.prog 19 #[.agg #[.string X, .slice a r ca], .agg #[.string X, .slice b r cb]] W fun e w' => e = .returned (.bool true) ∧ Below W.heap.size W w') := Lib.hid (fun W a b ca cb h1 h2 => by
                    have h := calike_yes ⟨nmL k, srcsL r⟩ a b ca cb W (by dsimp only; rw [srcs_len]; exact h1) (by dsimp only; rw [srcs_len]; exact h2) (by dsimp only; rw [srcs_len]; have := HR5.out; omega)
                    dsimp only at h
                    rw [strL_of HXN.out, srcs_len] at h
                    exact h)
                  clear S0 S1 y kc hx0 hxv hw1 hw2 hre hw5 hb5 d6
                  go_wp2_with fail
                  have hb6 : Below w5.heap.size w5 (w5.alloc (.cells #[.string ⟨#[110, 111, 110, 101]⟩, .string X, .string ⟨#[100, 97]⟩] 9)) := below_more (Below.refl _ _) _
                  refine (HFD.out _ _ (below_then HB5.out hb6) (SliceAt.lit w5 #[.string ⟨#[110, 111, 110, 101]⟩, .string X, .string ⟨#[100, 97]⟩] 9 3 3 rfl)).mono ?_
                  rintro e w7 ⟨⟨fa, fc, rfl, s7⟩, hb7⟩
                  have hb57 := below_then hb6 hb7
                  have hx8 : Below w7.heap.size w7 (w7.alloc (.cells #[.string X, .slice fa r fc] 30)) := below_more (Below.refl _ _) _
                  have hb58 := below_then hb57 hx8
                  have HB8 := Lib.hid (below_then HB5.out hb58)
                  have k0 := alloc_cell w7 #[.string X, .slice fa r fc] 30 (0, 0) 0
                  have k1 := alloc_cell w7 #[.string X, .slice fa r fc] 30 (0, 0) 1
                  have l0 := cell_stays HD5.out.1 hb58
                  have l1 := cell_stays HD5.out.2 hb58
                  obtain ⟨w8, hw8⟩ : ∃ w8 : World, w8 = w7.alloc (.cells #[.string X, .slice fa r fc] 30) := ⟨_, rfl⟩
                  have hs8 := strSl_below s7 hx8
                  have ht8 := strSl_below HS5.out hb58
                  rw [← hw8] at k0 k1 l0 l1 hs8 ht8 HB8
                  have HBD := Lib.hid (below_draws HB8.out ⟨1, rfl⟩)
                  have HCL := Lib.hid (HAL.out w8.drew fa da fc dc hs8 ht8)
                  have HKK := Lib.hid (And.intro (And.intro k0 k1) (And.intro l0 l1))
                  clear hb6 hb7 hb57 hx8 hb58 s7 hs8 ht8 d5 k0 k1 l0 l1
                  go_wp2_with fail
                  rw [← hw8]
                  obtain ⟨⟨k0, k1⟩, l0, l1⟩ := HKK.out
                  clear hw8
                  go_region_with (first | (go_at_call 19; refine HCL.out.mono ?_; rintro e w9 ⟨rfl, hb9⟩; have HB9 := Lib.hid (below_then HBD.out hb9); clear hb9))
                  all_goals
                    go_wp2_with fail
                    go_roundw
                    case rel => exact ⟨k + 1, HKN.out, by go_num, HB9⟩
                    case measure => have := HKN.out; simp [intOf]; omega
                exact AllReadyH.nil
              exact AllReadyH.nil
            exact AllReadyH.nil
          · have HB4 := Lib.hid (below_then B2.out HB3.out)
            go_wp2_with fail
            refine (HAW.out _).mono ?_
            rintro e w6 ⟨rfl, hb6⟩
            have B6 := Lib.hid (below_then HB4.out hb6)
            clear hb6
            go_wp2_with fail
            go_ret
            exact ⟨rfl, B6.out⟩

theorem cspMany_own : ownKnob Try.prog.godebug = none := by kernel_rfl

set_option maxRecDepth 100000 in
theorem cspMany_lifted (os : Os) (started : os.Started) (H : Type) (enc : TypeId × Value → H) :
    ReturnsInHanded {} Try.checked os 7 .any (Rows.cspManySpec.pre6 enc Try.prog Try.f7 Rows.cspManyRow.domain false) (Rows.cspManySpec.post enc Try.prog Try.f7 false true false false) := by
  refine law_lifted (C := Try.checked) cspMany_own started (by kernel_rfl) Try.func7
    (ChangeSpec.witness6 (enc := enc) (C := Try.checked) false ⟨#[], #[.slice none 0 0], []⟩ 8 (by kernel_rfl) (by kernel_rfl) (by kernel_rfl) (by kernel_rfl))
    (by kernel_rfl) (of_decide_eq_true (by kernel_rfl)) (tb := 4) (by kernel_rfl) Try.underlying4 rfl (fun ds h => by match ds, h with | [d0], _ => exact ⟨rfl, rfl, rfl⟩) ?_
  intro W base args ds p hval0 hA0 hlt hsz0
  have hval : ∀ (j : Nat) t v, Try.f7.params[j]? = some t → args[j]? = some v → Value.okWide Try.prog W .any base t v := hval0
  have hA : DataW.TrodAll enc Try.prog W 0 (fun _ => true) true Try.f7.params.toList args.toList ds p := hA0
  have hsz : (DataW.weightsEach Try.prog Try.f7.params.toList ds).all (· ≤ reachBytes) = true := hsz0
  rw [Try.params7] at hA hval hsz
  obtain ⟨v0, vs0, d0, ds0, p0, q0, hargs, rfl, rfl, h0, r0⟩ := trodAll_cons hA
  obtain ⟨rfl, rfl, rfl⟩ := trodAll_nil r0
  obtain rfl : args = #[v0] := by cases args; simp_all
  have s0 := sized_at hsz (j := 0) (t := 38) (d := d0) rfl rfl
  obtain ⟨a0, g0, z0⟩ := open_picks Try.underlying38 Try.underlying3 (by kernel_rfl) (by kernel_rfl) (hval 0 38 v0 rfl rfl) h0 s0
  exact cspMany_any (w := W) v0 a0 g0 z0

theorem cspMany_over : Rows.cspManyRow.holds Try.pinned (OpenSpec.ofChange Rows.cspManySpec) :=
  OpenClaim.holds_of_wide 7 Try.f7 rfl rfl rfl rfl rfl rfl rfl ⟨rfl, rfl, rfl, rfl, rfl⟩ rfl rfl rfl rfl rfl (by kernel_rfl) Try.func7 (by kernel_rfl)
    (of_decide_eq_true (by kernel_rfl)) (by unfold Func.isWrapper; first | (rw [if_pos (by decide +kernel)]; kernel_rfl) | (rw [if_neg (by decide +kernel)]; exact ⟨rfl, rfl⟩))
    (fun os started H enc _ => cspMany_lifted os started H enc)

theorem cspMany_proved : Rows.CspManySaid := cspMany_over
#print axioms cspMany_proved

end Go.Proofs.Ytceajdpjablfiaa
