/- Contracts: the reference's primes and tables (scratch). -/
import Derived.Test.YtcpioladmcidcaaProg
import Derived.Test.YtcpioladmcidcaaKit
import Derived.Test.YtcpioladmcidcaaInfo
import Derived.Test.YtcpioladmcidcaaRow
import Derived.Test.YtcpioladmcidcaaSha0
import Derived.Test.YtcpioladmcidcaaSha1
namespace Go.Proofs.Ytcpioladmcidcaa
open Go.RowKit Go.Proofs

theorem primes_any (w : World) :
    Calls Try.prog 27 #[] w fun e w' => (∃ v', e = .returned v' ∧ w'.ownsRow w.heap.size 3 1 v' 64 (primeL.map (Value.int .i64))) ∧ Below w.heap.size w w' := by
  obtain ⟨i0, hi, hz0, hz1, hz2⟩ := info_parts Try.infoInt
  go_enter Try.func27, Try.ntmps27
  go_wp2
  go_loopw [1, 2] (fun l n wr => ∃ (i c : Nat) (ni : Int), i ≤ 310 ∧ n = .int .i64 ni ∧ ni = 2 + (i : Int) ∧ c = (primeUp i).length ∧ wr.ownsRow w.heap.size 3 1 l c ((primeUp i).map (Value.int .i64)) ∧ Below w.heap.size w wr) (fun _ n _ => 312 - (intOf n).toNat)
  case atStart => exact ⟨0, 0, 2, by omega, rfl, rfl, rfl, World.ownsRow_nil _ _ _ _, Below.refl _ _⟩
  case round =>
    obtain ⟨i, c, ni, hi3, rfl, hni, hc, hown, hb⟩ := hrel
    obtain ⟨w1, hw1⟩ : ∃ w1 : World, w1 = wr := ⟨_, rfl⟩
    subst hw1
    obtain ⟨a, cp, rfl⟩ := own_len hown
    by_cases hlt : i < 310
    · have hc64 : c ≤ 63 := by rw [hc, ← primeUp_309]; exact primeUp_le (by omega)
      obtain ⟨L, hL⟩ : ∃ L, L = primeUp i := ⟨_, rfl⟩
      have hge : ∀ p ∈ L, 2 ≤ p := by rw [hL]; exact primeUp_ge i
      rw [← hL] at hown hc
      have HNI := Lib.hid hni
      have HLL := Lib.hid hL
      have HCC := Lib.hid hc
      have HGE := Lib.hid hge
      have hn0 : 2 ≤ ni ∧ ni < 312 := by omega
      clear hni hL hc hge
      go_wp2
      go_loopw [3, 4] (fun o i wr => ∃ (k : Nat) (ok : Bool), k ≤ c ∧ i = .int .i64 k ∧ o = .bool ok ∧ ok = (L.take k).all (fun p => ni % p != 0) ∧ ∃ d, wr = w1.drewN d) (fun _ i _ => c - (intOf i).toNat)
      case atStart => exact ⟨0, true, Nat.zero_le _, rfl, rfl, rfl, 0, rfl⟩
      case round =>
        obtain ⟨k, ok, hk, rfl, rfl, hok, hd⟩ := hrel
        have HOK := Lib.hid hok
        have hcell : ∀ q, wr.cell? q = w1.cell? q := by obtain ⟨d, rfl⟩ := hd; intro q; rfl
        have HCELL := Lib.hid hcell
        have HD := Lib.hid hd
        clear hok hcell hd
        by_cases hkc : k < c
        · obtain ⟨p, hp⟩ : ∃ p, L[k]? = some p := ⟨_, List.getElem?_eq_getElem (by rw [← HCC.out]; exact hkc)⟩
          have hp2 : 2 ≤ p := HGE.out p (List.mem_of_getElem? hp)
          have hpz : p ≠ 0 := by omega
          obtain ⟨b1, o1, cp1, hv1, hca⟩ := (SliceAt.own hown).at (by intro e; have := congrArg List.length e; rw [List.length_map, ← HCC.out] at this; simp at this; omega)
          obtain ⟨rfl, hv2, rfl⟩ := Value.slice.inj hv1
          clear hv1 hv2
          have hcp : wr.cell? ⟨b1, o1 + k, none⟩ = some (.int .i64 p) := (HCELL.out _).trans (hca k _ (by rw [List.getElem?_map, hp]; rfl))
          clear hca
          have hkx : (k : Int) < (c : Int) := by omega
          have HS : Hid ((L.take (k + 1)).all (fun p => ni % p != 0) = (ok && (ni % p != 0))) := Lib.hid (by
            rw [take_succ_of hp, List.all_append, ← HOK.out]
            simp)
          clear hp
          cases ok
          · go_wp2_with fail
            go_roundw
            case rel => exact ⟨k + 1, _, by omega, by go_num, rfl, by rw [HS.out]; rfl, HD.out⟩
            case measure => simp [intOf]; omega
          · go_wp2_with fail
            go_roundw
            case rel => exact ⟨k + 1, _, by omega, by go_num, rfl, by rw [HS.out, Bool.true_and], HD.out⟩
            case measure => simp [intOf]; omega
        · obtain rfl : k = c := by omega
          have HOK2 : Hid (ok = L.all (fun p => ni % p != 0)) := Lib.hid (by
            rw [HOK.out, List.take_of_length_le (by rw [← HCC.out]; exact Nat.le_refl _)])
          have hbw : Below w.heap.size w wr := below_draws hb HD.out
          have hown2 : wr.ownsRow w.heap.size 3 1 (.slice a k cp) k (L.map (Value.int .i64)) := by obtain ⟨d, rfl⟩ := HD.out; exact hown
          have HP : Hid (primeUp (i + 1) = if ok = true then L ++ [ni] else L) := Lib.hid (by
            rw [HOK2.out, HLL.out, HNI.out, primeUp])
          clear hown
          cases ok
          · go_wp2
            go_roundw
            case rel => exact ⟨i + 1, k, ni + 1, by omega, rfl, by rw [HNI.out]; go_num, by rw [HP.out]; exact HCC.out, by rw [HP.out]; exact hown2, hbw⟩
            case measure => simp [intOf]; omega
          · obtain ⟨w3, hw3⟩ : ∃ w3 : World, w3 = wr := ⟨_, rfl⟩
            subst hw3
            go_wp2_with (at_builtin; refine wpList_append1 rfl _ _ 64 rfl w.heap.size 3 rfl i0 (.int .i64 0) 8 Try.underlying64 hi hz0 hz1 hz2 rfl _ k _ rfl hown2 rfl rfl (by omega) (by omega) hbw.size ?_; intro v6 w6 hown6 hb6)
            go_roundw
            case rel => exact ⟨i + 1, k + 1, ni + 1, by omega, rfl, by rw [HNI.out]; go_num, by rw [HP.out, if_pos rfl, List.length_append, ← HCC.out]; rfl, by rw [HP.out, if_pos rfl, List.map_append]; exact hown6, hbw.trans hb6⟩
            case measure => simp [intOf]; omega
    · have hi310 : i = 310 := by omega
      have hc64 : c = 64 := by rw [hc, hi310, primeUp_310]
      have hown2 : w1.ownsRow w.heap.size 3 1 (.slice a c cp) c (primeL.map (Value.int .i64)) := by
        rw [hi310] at hown; exact hown
      clear hown hc hni hi310 hlt hi3
      subst hc64
      go_wp2
      go_ret
      refine ⟨⟨.slice a 64 cp, rfl, ?_⟩, hb⟩
      exact hown2

theorem tables_any (w : World) :
    Calls Try.prog 20 #[] w fun e w' => e = .returned (.agg (tabL.map (Value.int .u32)).toArray) ∧ Below w.heap.size w w' := by
  obtain ⟨Z, hz, hZ⟩ : ∃ Z, (∀ w, (zeroValue 55).run Try.prog w = .ok (.agg Z) w) ∧ Z = Array.replicate 72 (.int .u32 0) := ⟨_, zero_cells Try.infoTables, rfl⟩
  have HZ := Lib.hid hZ
  clear hZ
  go_enter Try.func20, Try.ntmps20
  go_wp2_with fail
  refine (primes_any _).mono ?_
  rintro e w2 ⟨⟨v, rfl, hown⟩, hb2⟩
  have hr0 : Rw w2 w.heap.size w.heap.size 55 Z.toList := (((Rw.alloc w 55 Z (Nat.le_refl _)).more _).below hb2)
  have hr1 : Rw w2 w.heap.size (w.heap.size + 1) 55 Z.toList := by
    have := ((Rw.alloc (w.alloc (.cells Z 55)) 55 Z (base := w.heap.size) (by simp)).below hb2)
    simpa using this
  have hbw : Below w.heap.size w w2 := (below_more (below_more (Below.refl _ _) _) _).trans (hb2.mono (by simp; omega))
  have hl64 : primeL.length = 64 := primeUp_310
  have hpl := primeL_le
  clear hb2
  obtain ⟨L, hL⟩ : ∃ L, L = primeL := ⟨_, rfl⟩
  rw [← hL] at hown hl64 hpl
  obtain ⟨b1, c1, rfl, hb1⟩ := own_some hown (by decide)
  obtain ⟨base, hbase⟩ : ∃ base, base = w.heap.size + 2 := ⟨_, rfl⟩
  have hown1 : w2.ownsRow base 3 1 (.slice (some ⟨b1, 0, none⟩) 64 c1) 64 (L.map (Value.int .i64)) := by
    rw [hbase]
    simpa using hown
  clear hown
  have HTL : Hid (tabL = (L.take 8).map (fun p => rootS p 2) ++ L.map (fun p => rootS p 3)) := Lib.hid (by rw [hL]; rfl)
  have HL64 := Lib.hid hl64
  have HPL := Lib.hid hpl
  have HB := Lib.hid hbase
  clear hL hl64 hpl hbase hb1
  go_wp2
  go_loopw [3] (fun i wr => ∃ (k : Nat) (a : List Int), k ≤ 8 ∧ i = .int .i64 k ∧ a = (L.take k).map (fun p => rootS p 2) ∧ wr.ownsRow base 3 1 (.slice (some ⟨b1, 0, none⟩) 64 c1) 64 (L.map (Value.int .i64)) ∧ Rw wr w.heap.size w.heap.size 55 Z.toList ∧ Rw wr w.heap.size (w.heap.size + 1) 55 ((a ++ List.replicate (72 - k) 0).map (Value.int .u32)) ∧ Below w.heap.size w wr) (fun i _ => 8 - (intOf i).toNat)
  case atStart => exact ⟨0, [], by omega, rfl, rfl, hown1, hr0, by rw [HZ.out] at hr1; simpa using hr1, hbw⟩
  case round =>
    obtain ⟨k, a, hk, rfl, ha, hown, hg0, hg1, hb⟩ := hrel
    have HA := Lib.hid ha
    clear hown1 hr0 hr1 hbw ha
    by_cases hlt : k < 8
    · obtain ⟨p, hp⟩ : ∃ p, L[k]? = some p := ⟨_, List.getElem?_eq_getElem (by rw [HL64.out]; omega)⟩
      have hp0 := HPL.out p (List.mem_of_getElem? hp)
      have hcp : wr.cell? ⟨b1, k, none⟩ = some (.int .i64 p) := (hown.cellAt k (by omega)).trans (by rw [List.getElem?_map, hp]; rfl)
      have HP := Lib.hid hp
      clear hp
      obtain ⟨w3, hw3⟩ : ∃ w3 : World, w3 = wr := ⟨_, rfl⟩
      subst hw3
      have KO := Lib.hid hown
      have K0 := Lib.hid hg0
      have K1 := Lib.hid hg1
      have KB := Lib.hid hb
      have hk64 : (k : Int) < 64 := by omega
      have hk8 : (k : Int) < 8 := by omega
      clear hown hg0 hg1 hb hlt hk
      go_wp2_with fail
      refine (root_any p 2 (by omega) hp0 _).mono ?_
      rintro e w4 ⟨rfl, hb4⟩
      have HO := Lib.hid (own_below KO.out hb4)
      have HG0 := Lib.hid (K0.out.below hb4)
      have HG1 := Lib.hid (K1.out.below hb4)
      have HBW := Lib.hid (below_then KB.out hb4)
      have hcg : w4.cell? ⟨w.heap.size + 1, k, none⟩ = some (.int .u32 0) := HG1.out.cell (by
        rw [List.getElem?_map, List.getElem?_append_right (by rw [HA.out]; simp; omega)]
        rw [List.getElem?_replicate, if_pos (by rw [HA.out]; simp [HL64.out]; omega)]
        rfl)
      have hfg := HG1.out.free k
      clear hb4 hcp
      go_wp2
      go_roundw
      case rel =>
        refine ⟨k + 1, (L.take (k + 1)).map (fun p => rootS p 2), by omega, by go_num, rfl, own_other HO.out (by rw [HB.out]; omega) _ _, HG0.out.other (by omega) _ _, ?_, HBW.out.setCell (by simp) _⟩
        have := HG1.out.stored k (.int .u32 (rootS p 2))
        rw [← List.map_set, show 72 - k = (72 - (k + 1)) + 1 from by omega, List.replicate_succ, tab_set (f := fun p => rootS p 2) HP.out a _ 0 HA.out] at this
        exact this
      case measure => simp [intOf]; omega
    · have h8 : k = 8 := by omega
      obtain ⟨m, hm⟩ : ∃ m, m = k := ⟨_, rfl⟩
      subst hm
      have K0 := Lib.hid hg0
      have KB := Lib.hid hb
      have K1 : Hid (Rw wr w.heap.size (w.heap.size + 1) 55 ((((L.take 8).map (fun p => rootS p 2) ++ (L.take 0).map (fun p => rootS p 3)) ++ List.replicate (64 - 0) 0).map (Value.int .u32))) := Lib.hid (by have := hg1; rw [HA.out, h8] at this; simpa using this)
      have KO := Lib.hid hown
      have hm8 : ¬ ((m : Int) < 8) := by omega
      clear hown hg0 hg1 hb hk hlt HA h8
      go_wp2
      go_loopw [4] (fun i wr => ∃ (k : Nat), k ≤ 64 ∧ i = .int .i64 k ∧ Hid (wr.ownsRow base 3 1 (.slice (some ⟨b1, 0, none⟩) 64 c1) 64 (L.map (Value.int .i64))) ∧ Hid (Rw wr w.heap.size w.heap.size 55 Z.toList) ∧ Hid (Rw wr w.heap.size (w.heap.size + 1) 55 ((((L.take 8).map (fun p => rootS p 2) ++ (L.take k).map (fun p => rootS p 3)) ++ List.replicate (64 - k) 0).map (Value.int .u32))) ∧ Hid (Below w.heap.size w wr)) (fun i _ => 64 - (intOf i).toNat)
      case atStart => exact ⟨0, by omega, rfl, KO, K0, K1, KB⟩
      case round =>
        clear KO K0 K1 KB
        obtain ⟨k, hk, rfl, KO, K0, K1, KB⟩ := hrel
        by_cases hlt : k < 64
        · obtain ⟨p, hp⟩ : ∃ p, L[k]? = some p := ⟨_, List.getElem?_eq_getElem (by rw [HL64.out]; omega)⟩
          have hp0 := HPL.out p (List.mem_of_getElem? hp)
          have hcp : wr.cell? ⟨b1, k, none⟩ = some (.int .i64 p) := (KO.out.cellAt k (by omega)).trans (by rw [List.getElem?_map, hp]; rfl)
          have HP := Lib.hid hp
          have hlk : ((L.take 8).map (fun p => rootS p 2) ++ (L.take k).map (fun p => rootS p 3)).length = 8 + k := by simp [HL64.out]; omega
          have HLK := Lib.hid hlk
          clear hp hlk
          obtain ⟨w3, hw3⟩ : ∃ w3 : World, w3 = wr := ⟨_, rfl⟩
          subst hw3
          have hk64 : (k : Int) < 64 := by omega
          have HKL := Lib.hid hlt
          clear hlt hk
          go_wp2_with fail
          refine (root_any p 3 (by omega) hp0 _).mono ?_
          rintro e w4 ⟨rfl, hb4⟩
          have HO := Lib.hid (own_below KO.out hb4)
          have HG0 := Lib.hid (K0.out.below hb4)
          have HG1 := Lib.hid (K1.out.below hb4)
          have HBW := Lib.hid (below_then KB.out hb4)
          have hcg : w4.cell? ⟨w.heap.size + 1, 8 + k, none⟩ = some (.int .u32 0) := HG1.out.cell (by
            rw [List.getElem?_map, List.getElem?_append_right (by rw [HLK.out]; exact Nat.le_refl _), HLK.out, Nat.sub_self]
            have := HKL.out
            rw [List.getElem?_replicate, if_pos (by omega)]
            rfl)
          have hfg := HG1.out.free (8 + k)
          clear hb4 hcp
          go_wp2
          go_roundw
          case rel =>
            have hk := HKL.out
            refine ⟨k + 1, by omega, by go_num, Lib.hid (own_other HO.out (by rw [HB.out]; omega) _ _), Lib.hid (HG0.out.other (by omega) _ _), Lib.hid ?_, Lib.hid (HBW.out.setCell (by simp) _)⟩
            have := HG1.out.stored (8 + k) (.int .u32 (rootS p 3))
            rw [← List.map_set, show 64 - k = (64 - (k + 1)) + 1 from by omega, List.replicate_succ, tab_set2 (f := fun p => rootS p 3) HP.out _ _ _ 0 (by simp [HL64.out]) rfl] at this
            exact this
          case measure => have hk := HKL.out; simp [intOf]; omega
        · have h64 : k = 64 := by omega
          have hn64 : ¬ ((k : Int) < 64) := by omega
          have hfull : (((L.take 8).map (fun p => rootS p 2) ++ (L.take 64).map (fun p => rootS p 3)) ++ List.replicate (64 - 64) 0) = tabL := by
            rw [HTL.out, List.take_of_length_le (l := L) (i := 64) (by rw [HL64.out]; exact Nat.le_refl _)]
            simp
          have hr := K1.out
          rw [h64, hfull] at hr
          have hlen : tabL.length = 72 := by rw [HTL.out]; simp [HL64.out]
          obtain ⟨T, hT⟩ : ∃ T, T = tabL := ⟨_, rfl⟩
          rw [← hT] at hr hlen
          have HT := Lib.hid hT
          have HR := Lib.hid hr
          have HLEN := Lib.hid hlen
          have hzl : Z.toList.length = (T.map (Value.int .u32)).length := by rw [HZ.out, List.length_map, hlen]; simp
          have HZL := Lib.hid hzl
          have hinf : (Try.prog.info? 55).map (·.size) = some (T.map (Value.int .u32)).length := by rw [List.length_map, hlen]; exact (zero_of_info Try.infoTables).2
          have HINF := Lib.hid hinf
          have H64 := Lib.hid h64
          clear hT hr hlen hzl hinf h64 hlt hk hfull
          go_wp2_with (first | (refine wpList_load_mid rfl 55 _ rfl (w.heap.size + 1) 0 rfl (T.map (Value.int .u32)) _ HR.out.whole Try.underlying55 rfl HINF.out ?_) | (refine wpList_store_mid rfl 55 _ _ rfl w.heap.size 0 (T.map (Value.int .u32)).toArray rfl rfl (K0.out.there 0 _ (by rw [HZL.out]; simp)) (by rw [HINF.out]; simp) (all_oneCell_toArray (by intro v hv; obtain ⟨n, _, rfl⟩ := List.mem_map.1 hv; rfl)) ?_))
          have hend := K0.out.storedAll (T.map (Value.int .u32)) HZL.out
          refine bodyPost_ret (v := .agg (T.map (Value.int .u32)).toArray) ?_ rfl ⟨by rw [HT.out], below_setCells (Nat.le_refl _) _ _ _ KB.out⟩
          exact results_cell_row rfl _ _ w.heap.size _ _ _ _ rfl hend.2 Try.underlying55 rfl (by rw [HINF.out]; simp)

end Go.Proofs.Ytcpioladmcidcaa
