/- Contracts: the reference's sums (scratch). -/
import Derived.Test.YtcpioladmcidcaaProg
import Derived.Test.YtcpioladmcidcaaKit
import Derived.Test.YtcpioladmcidcaaInfo
import Derived.Test.YtcpioladmcidcaaRow
import Derived.Test.YtcpioladmcidcaaSha0
namespace Go.Proofs.Ytcpioladmcidcaa
open Go.RowKit Go.Proofs

theorem times_any (t : Int) (l : List Int) (v : Value) (w : World) (hl : 1 ≤ l.length ∧ l.length ≤ 10) (hv : SliceAt w v (l.map (Value.int .u64))) :
    Calls Try.prog 36 #[v, .int .u64 t] w fun e w' => (∃ v', e = .returned v' ∧ w'.ownsRow w.heap.size 44 1 v' (l.length + 2) ((timesL t l).map (Value.int .u64))) ∧ Below w.heap.size w w' := by
  obtain ⟨i0, hi, hz0, hz1, hz2⟩ := info_parts Try.infoU64
  obtain ⟨b, off, cp, rfl, hc⟩ := hv.at (by intro e; have := congrArg List.length e; simp at this; rw [this] at hl; simp at hl)
  rw [List.length_map]
  have HC := Lib.hid hc
  clear hc hv
  go_enter Try.func36, Try.ntmps36
  go_wp2_with (with_reducible refine wpList_make1 _ rfl _ _ 73 rfl 44 i0 (.int .u64 0) 8 Try.underlying73 hi hz0 hz1 hz2 rfl .i64 .i64 _ _ (l.length + 2) rfl rfl (by omega) (by omega) (by omega) (by omega) ?_; intro w1 hown1 hb1)
  obtain ⟨G, hG⟩ : ∃ G, G = w.heap.size := ⟨_, rfl⟩
  rw [← hG] at hown1 hb1 ⊢
  have HGG := Lib.hid hG
  clear hG
  go_loopw [8] (fun i wr => ∃ (k : Nat) (o : List Int), k ≤ l.length ∧ i = .int .i64 k ∧ o = timesUp t l k ∧ o.length = l.length + 2 ∧ wr.ownsRow G 44 1 (.slice (some ⟨G, 0, none⟩) (l.length + 2) (l.length + 2)) (l.length + 2) (o.map (Value.int .u64)) ∧ Below G w wr) (fun i _ => l.length - (intOf i).toNat)
  case atStart => exact ⟨0, List.replicate (l.length + 2) 0, Nat.zero_le _, rfl, rfl, by simp, by rw [List.map_replicate]; exact hown1, hb1⟩
  case round =>
    clear hown1 hb1
    obtain ⟨k, o, hk, rfl, hou, hol, hown, hb⟩ := hrel
    have HOU := Lib.hid hou
    clear hou
    by_cases hlt : k < l.length
    · obtain ⟨a, ha⟩ : ∃ a, l[k]? = some a := ⟨_, List.getElem?_eq_getElem hlt⟩
      obtain ⟨p, hp⟩ : ∃ p, o[k]? = some p := ⟨_, List.getElem?_eq_getElem (by omega)⟩
      obtain ⟨q, hq⟩ : ∃ q, o[k + 1]? = some q := ⟨_, List.getElem?_eq_getElem (by omega)⟩
      obtain ⟨r, hr⟩ : ∃ r, o[k + 2]? = some r := ⟨_, List.getElem?_eq_getElem (by omega)⟩
      have hca := HC.out k (.int .u64 a) (by rw [List.getElem?_map, ha]; rfl)
      have hbG : b < G := by rw [HGG.out]; exact block_of_cell hca
      have ca : wr.cell? ⟨b, off + k, none⟩ = some (.int .u64 a) := (hb.cell hbG).trans hca
      have c0 : wr.cell? ⟨G, k, none⟩ = some (.int .u64 p) := (hown.cellAt k (by omega)).trans (by rw [List.getElem?_map, hp]; rfl)
      have c1 : wr.cell? ⟨G, k + 1, none⟩ = some (.int .u64 q) := (hown.cellAt (k + 1) (by omega)).trans (by rw [List.getElem?_map, hq]; rfl)
      have c2 : wr.cell? ⟨G, k + 2, none⟩ = some (.int .u64 r) := (hown.cellAt (k + 2) (by omega)).trans (by rw [List.getElem?_map, hr]; rfl)
      have f0 := hown.frozenAt k
      have f1 := hown.frozenAt (k + 1)
      have f2 := hown.frozenAt (k + 2)
      have x1 : (k : Int) < (l.length : Int) := by omega
      have x2 : (k : Int) < (l.length : Int) + 2 := by omega
      have x3 : (k : Int) + 1 < (l.length : Int) + 2 := by omega
      have x4 : (k : Int) + 2 < (l.length : Int) + 2 := by omega
      have HOL := Lib.hid hol
      have HS : Hid (timesUp t l (k + 1) = ((o.set k (m32 (timesX t a p))).set (k + 1) (m32 (timesY t a p q))).set (k + 2) (timesZ t a p q r)) := Lib.hid (by
        have ea : l.getD k 0 = a := by rw [List.getD_eq_getElem?_getD, ha]; rfl
        have ep : o.getD k 0 = p := by rw [List.getD_eq_getElem?_getD, hp]; rfl
        have eq : o.getD (k + 1) 0 = q := by rw [List.getD_eq_getElem?_getD, hq]; rfl
        have er : o.getD (k + 2) 0 = r := by rw [List.getD_eq_getElem?_getD, hr]; rfl
        show ((List.set (timesUp t l k) _ _).set _ _).set _ _ = _
        rw [← HOU.out, ea, ep, eq, er])
      clear hol ha hp hq hr hca
      go_wp2_with fail
      go_quiet (fail)
      go_wp2_with fail
      go_quiet (fail)
      go_wp2_with fail
      go_roundw
      case rel =>
        refine ⟨k + 1, timesUp t l (k + 1), by omega, by go_num, rfl, timesUp_len _ _ _, ?_, below_set3 hb _ _ _ _ _ _ _ _⟩
        rw [HS.out, List.map_set, List.map_set, List.map_set]
        exact own_set3 hown _ _ _ _ _ _ _ _
      case measure => simp [intOf]; omega
    · obtain rfl : k = l.length := by omega
      have HT : Hid (o = timesL t l) := Lib.hid HOU.out
      rw [HT.out] at hown
      go_wp2
      go_ret
      have hg := HGG.out
      subst hg
      exact ⟨⟨_, rfl, hown⟩, hb⟩

theorem most_any (t : Int) (k : Nat) (p : Int) (_ht : 0 ≤ t) (hk : 1 ≤ k ∧ k ≤ 3) (hp : 0 ≤ p ∧ p ≤ 1000) (w : World) :
    Calls Try.prog 34 #[.int .u64 t, .int .i64 k, .int .i64 p] w fun e w' => e = .returned (.bool (mostB t k p)) ∧ Below w.heap.size w w' := by
  obtain ⟨i0, hi, hz0, hz1, hz2⟩ := info_parts Try.infoU64
  go_enter Try.func34, Try.ntmps34
  go_wp2
  go_loopw [7, 8] (fun v i wr => ∃ j : Nat, j ≤ k ∧ i = .int .i64 j ∧ wr.ownsRow w.heap.size 44 1 v (1 + 2 * j) ((powL t j).map (Value.int .u64)) ∧ Below w.heap.size w wr) (fun _ i _ => k - (intOf i).toNat)
  case atStart => exact ⟨0, Nat.zero_le _, rfl, World.ownsRow_lit _ _ 1 (Nat.le_refl _) (by decide) rfl, (Below.refl _ _).alloc (Nat.le_refl _) _⟩
  case round =>
    obtain ⟨j, hj, rfl, hown, hb⟩ := hrel
    obtain ⟨w1, hw1⟩ : ∃ w1 : World, w1 = wr := ⟨_, rfl⟩
    subst hw1
    by_cases hlt : j < k
    · have hlen := powL_len t j
      have HLEN := Lib.hid hlen
      have hl2 : 1 ≤ (powL t j).length ∧ (powL t j).length ≤ 10 := by omega
      clear hlen
      go_wp2_with fail
      refine (times_any t (powL t j) _ _ hl2 (SliceAt.own hown)).mono ?_
      rintro e w2 ⟨⟨v2, rfl, hown2⟩, hb2⟩
      rw [HLEN.out] at hown2
      go_wp2
      go_roundw
      case rel => exact ⟨j + 1, by omega, by go_num, own_mono (by rw [show 1 + 2 * (j + 1) = 1 + 2 * j + 2 from by omega]; exact hown2) hb.size, below_then hb hb2⟩
      case measure => simp [intOf]; omega
    · obtain rfl : j = k := by omega
      have hlen := powL_len t j
      have hsa := SliceAt.own hown
      obtain ⟨A, hA⟩ : ∃ A, A = powL t j := ⟨_, rfl⟩
      rw [← hA] at hlen hsa
      have HA := Lib.hid hA
      clear hA
      obtain ⟨b1, o1, cp1, rfl, hca⟩ := hsa.at (by intro e; have := congrArg List.length e; rw [List.length_map, hlen] at this; simp at this)
      rw [List.length_map, hlen]
      have HCA := Lib.hid hca
      have HLEN := Lib.hid hlen
      clear hca hsa hown hlen
      go_wp2_with (first | (at_builtin; refine wpList_append1 rfl _ _ 73 rfl w1.heap.size 44 rfl i0 (.int .u64 0) 8 Try.underlying73 hi hz0 hz1 hz2 rfl _ j _ rfl hown2 rfl rfl (by omega) (by omega) hb2.size ?_; intro v3 w3 hown3 hb3; obtain ⟨a3, c3, rfl⟩ := own_len hown3) | (with_reducible refine wpList_make1 _ rfl _ _ 73 rfl 44 i0 (.int .u64 0) 8 Try.underlying73 hi hz0 hz1 hz2 rfl .i64 .i64 _ _ j rfl rfl rfl rfl (by omega) (by omega) ?_; intro w2 hown2 hb2))
      refine wp_loop_rounds 1 ?_
      rw [rounds_succ]
      go_wp2
      have hbb := hb2.trans hb3
      have hown4 : w3.ownsRow w1.heap.size 44 1 (.slice a3 (j + 1) c3) (j + 1) ((List.replicate j 0 ++ [p]).map (Value.int .u64)) := by
        rw [List.map_append, List.map_replicate]
        exact hown3
      clear hown2 hown3 hb2 hb3
      go_loopw [9] (fun v wr => ∃ (m : Nat) (ad : Option Addr) (cd : Nat), v = .slice ad (j + 1 + m) cd ∧ m ≤ j ∧ wr.ownsRow w1.heap.size 44 1 v (j + 1 + m) (((List.replicate j 0 ++ [p]) ++ List.replicate m 0).map (Value.int .u64)) ∧ Below w1.heap.size w1 wr) (fun v _ => 1 + 2 * j - lenOf v)
      case atStart => exact ⟨0, _, _, rfl, by omega, by rw [List.replicate_zero, List.append_nil]; exact hown4, hbb⟩
      case round =>
        clear hown4 hbb
        obtain ⟨m, ad, cd, rfl, hm, hown, hb5⟩ := hrel
        obtain ⟨w5, hw5⟩ : ∃ w5 : World, w5 = wr := ⟨_, rfl⟩
        subst hw5
        by_cases hlt2 : m < j
        · go_wp2_with (at_builtin; refine wpList_append1 rfl _ _ 73 rfl w1.heap.size 44 rfl i0 (.int .u64 0) 8 Try.underlying73 hi hz0 hz1 hz2 rfl _ (j + 1 + m) _ rfl hown rfl rfl (by omega) (by omega) hb5.size ?_; intro v6 w6 hown6 hb6; obtain ⟨a6, c6, rfl⟩ := own_len hown6)
          go_roundw
          case rel =>
            refine ⟨m + 1, a6, c6, rfl, by omega, ?_, hb5.trans hb6⟩
            rw [List.replicate_succ', ← List.append_assoc, List.map_append]
            exact hown6
          case measure => simp [lenOf]; omega
        · obtain rfl : m = j := by omega
          have hsb := SliceAt.own hown
          obtain ⟨B, hB⟩ : ∃ B, B = (List.replicate m 0 ++ [p]) ++ List.replicate m 0 := ⟨_, rfl⟩
          rw [← hB] at hsb
          have HB := Lib.hid hB
          have hlb : B.length = 1 + 2 * m := by rw [hB]; simp; omega
          clear hB hown
          obtain ⟨b2, o2, cp2, hv2, hcb⟩ := hsb.at (by intro e; have := congrArg List.length e; rw [List.length_map, hlb] at this; simp at this)
          rw [List.length_map, hlb] at hv2
          have HCB := Lib.hid hcb
          have HLB := Lib.hid hlb
          clear hcb hsb hlb
          obtain ⟨rfl, hv3, rfl⟩ := Value.slice.inj hv2
          clear hv2 hv3
          have hmost : leTop (A.take (1 + 2 * m)).reverse (B.take (1 + 2 * m)).reverse = mostB t m p := by
            rw [List.take_of_length_le (by rw [HLEN.out]; exact Nat.le_refl _), List.take_of_length_le (by rw [HLB.out]; exact Nat.le_refl _), HA.out, HB.out]
            rfl
          have HM := Lib.hid hmost
          have hbw5 : Below w.heap.size w w5 := below_then hb hb5
          clear hmost hm hlt2 hlt hj
          go_wp2
          go_loopw [10] (fun i wr => ∃ (j : Nat) (ii : Int), i = .int .i64 ii ∧ ii = (j : Int) - 1 ∧ j ≤ 1 + 2 * m ∧ leTop (A.take j).reverse (B.take j).reverse = mostB t m p ∧ ∃ d, wr = w5.drewN d) (fun i _ => (intOf i + 1).toNat)
          case atStart => exact ⟨1 + 2 * m, _, rfl, by omega, Nat.le_refl _, HM.out, 0, rfl⟩
          case round =>
            obtain ⟨j, ii, rfl, hij, hj, hle, hd⟩ := hrel
            have HLE := Lib.hid hle
            have hcell : ∀ q, wr.cell? q = w5.cell? q := by obtain ⟨d, rfl⟩ := hd; intro q; rfl
            have HCELL := Lib.hid hcell
            have HD := Lib.hid hd
            clear hle hcell hd
            cases j with
            | zero =>
              have hneg : ii < 0 := by omega
              clear hij
              have HE : Hid (mostB t m p = true) := Lib.hid (by rw [← HLE.out]; rfl)
              go_wp2
              go_ret
              exact ⟨ret_bool HE.out.symm, below_draws hbw5 HD.out⟩
            | succ k =>
              obtain rfl : ii = (k : Int) := by omega
              clear hij
              obtain ⟨x, hx⟩ : ∃ x, A[k]? = some x := ⟨_, List.getElem?_eq_getElem (by rw [HLEN.out]; omega)⟩
              obtain ⟨y, hy⟩ : ∃ y, B[k]? = some y := ⟨_, List.getElem?_eq_getElem (by rw [HLB.out]; omega)⟩
              have hcx0 := HCA.out k (.int .u64 x) (by rw [List.getElem?_map, hx]; rfl)
              have hcx : wr.cell? ⟨b1, o1 + k, none⟩ = some (.int .u64 x) := (HCELL.out _).trans ((hb5.cell (block_of_cell hcx0)).trans hcx0)
              have hcy : wr.cell? ⟨b2, o2 + k, none⟩ = some (.int .u64 y) := (HCELL.out _).trans (HCB.out k (.int .u64 y) (by rw [List.getElem?_map, hy]; rfl))
              have hx1 : (k : Int) < 1 + 2 * (m : Int) := by omega
              have hx2 : (k : Int) < (m : Int) + 1 + (m : Int) := by omega
              have hstep : leTop (A.take (k + 1)).reverse (B.take (k + 1)).reverse = if x = y then leTop (A.take k).reverse (B.take k).reverse else decide (x < y) := by
                rw [take_succ_of hx, take_succ_of hy, List.reverse_append, List.reverse_append]
                rfl
              have HS := Lib.hid hstep
              clear hstep hcx0 hx hy
              by_cases hq : x = y
              · have hq0 : (x != y) = false := by rw [bne_eq_false_iff_eq]; exact hq
                have HN : Hid (leTop (A.take k).reverse (B.take k).reverse = mostB t m p) := Lib.hid (by rw [← HLE.out, HS.out, if_pos hq])
                clear hq
                go_wp2_with fail
                go_quiet (fail)
                go_wp2
                go_roundw
                case rel => exact ⟨k, _, rfl, rfl, by omega, HN.out, drewN_more HD.out _⟩
                case measure => simp [intOf]
              · have hq0 : (x != y) = true := by rw [bne_iff_ne]; exact hq
                have HN : Hid (mostB t m p = decide (x < y)) := Lib.hid (by rw [← HLE.out, HS.out, if_neg hq])
                clear hq
                go_wp2_with fail
                go_quiet (fail)
                go_wp2_with fail
                go_quiet (fail)
                go_wp2_with fail
                go_ret
                exact ⟨ret_bool HN.out.symm, below_draws hbw5 (drewN_more (drewN_more HD.out _) _)⟩

theorem root_any (p : Int) (k : Nat) (hk : 1 ≤ k ∧ k ≤ 3) (hp : 0 ≤ p ∧ p ≤ 1000) (w : World) :
    Calls Try.prog 28 #[.int .i64 p, .int .i64 k] w fun e w' => e = .returned (.int .u32 (rootS p k)) ∧ Below w.heap.size w w' := by
  go_enter Try.func28, Try.ntmps28
  go_wp2
  go_loopw [5, 6] (fun r i wr => ∃ (j : Nat) (ii ri : Int), i = .int .i64 ii ∧ ii = (j : Int) - 1 ∧ j ≤ 41 ∧ r = .int .u64 ri ∧ ri = rootUp p k (41 - j) ∧ Below w.heap.size w wr) (fun _ i _ => (intOf i + 1).toNat)
  case atStart => exact ⟨41, 40, 0, rfl, rfl, by omega, rfl, rfl, Below.refl _ _⟩
  case round =>
    obtain ⟨j, ii, ri, rfl, hij, hj, rfl, hru, hb⟩ := hrel
    have HR := Lib.hid hru
    have hri : 0 ≤ ri := by rw [hru]; exact rootUp_nonneg _ _ _
    clear hru
    obtain ⟨w1, hw1⟩ : ∃ w1 : World, w1 = wr := ⟨_, rfl⟩
    subst hw1
    cases j with
    | zero =>
      have hneg : ii < 0 := by omega
      have HF : Hid (rootS p k = IntKind.u32.wrap ri) := Lib.hid (by rw [HR.out]; rfl)
      clear hij
      go_wp2
      go_ret
      exact ⟨ret_int HF.out.symm, hb⟩
    | succ b =>
      obtain rfl : ii = (b : Int) := by omega
      clear hij
      have hc : b = 40 - (40 - b) := by omega
      have HC := Lib.hid hc
      clear hc
      obtain ⟨t, ht⟩ : ∃ t, t = bits .or .u64 ri (IntKind.u64.wrap (2 ^ b)) := ⟨_, rfl⟩
      have ht0 : 0 ≤ t := by rw [ht]; exact bits_u64_nonneg _ _ _
      have HT := Lib.hid ht
      clear ht
      have e1 : rootUp p k (41 - (b + 1)) = rootUp p k (40 - b) := by rw [show 41 - (b + 1) = 40 - b from by omega]
      have E1 := Lib.hid e1
      clear e1
      cases hm : mostB t k p
      · have HN : Hid (ri = rootUp p k (41 - b)) := Lib.hid (by
          rw [show 41 - b = (40 - b) + 1 from by omega, rootUp_no HC.out (by rw [← E1.out, ← HR.out, ← HT.out]; exact hm), ← E1.out]
          exact HR.out)
        have HM := Lib.hid hm
        clear hm
        go_wp2_with fail
        rw [← HT.out]
        refine (most_any t k p ht0 hk hp _).mono ?_
        rw [HM.out]
        rintro e w2 ⟨rfl, hb2⟩
        go_wp2
        go_roundw
        case rel => exact ⟨b, _, _, rfl, by omega, by omega, rfl, HN.out, below_then hb hb2⟩
        case measure => simp [intOf]
      · have HN : Hid (t = rootUp p k (41 - b)) := Lib.hid (by
          rw [show 41 - b = (40 - b) + 1 from by omega, rootUp_yes HC.out (by rw [← E1.out, ← HR.out, ← HT.out]; exact hm), ← E1.out, ← HR.out]
          exact HT.out)
        have HM := Lib.hid hm
        clear hm
        go_wp2_with fail
        rw [← HT.out]
        refine (most_any t k p ht0 hk hp _).mono ?_
        rw [HM.out]
        rintro e w2 ⟨rfl, hb2⟩
        go_wp2
        go_roundw
        case rel => exact ⟨b, _, _, rfl, by omega, by omega, rfl, HN.out, below_then hb hb2⟩
        case measure => simp [intOf]

end Go.Proofs.Ytcpioladmcidcaa
