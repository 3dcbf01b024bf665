/- Contracts: the reference's ParseHash. -/
import Derived.Deep.RegionHeld3
import Derived.Deep.RegionLaw
import Derived.BigRegion
import Derived.Test.YtcpioladmcidcaaProg
import Derived.Test.YtcpioladmcidcaaKit
import Derived.Test.YtcpioladmcidcaaInfo
import Derived.Test.YtcpioladmcidcaaRow
import Derived.Test.YtcpioladmcidcaaRow2
import Derived.Test.YtcpioladmcidcaaCod5
import Derived.Test.YtcpioladmcidcaaCod7
import Derived.Test.YtcpioladmcidcaaCod8
import Derived.Test.YtcpioladmcidcaaLens
import Derived.Test.YtcpioladmcidcaaGoes
import Derived.Test.YtcpioladmcidcaaTxt0
import Derived.Test.YtcpioladmcidcaaTxt2
namespace Go.Proofs.Ytcpioladmcidcaa
open Go.RowKit Go.Proofs

set_option maxRecDepth 100000 in
set_option maxHeartbeats 2000000 in
theorem refparse_any (t : ByteArray) (w : World) :
    Calls Try.prog 13 #[.string t] w fun e w' => e = .returned (parV t.data.toList) ∧ Below w.heap.size w w' := by
  obtain ⟨Z, hz, hZ⟩ : ∃ Z, (∀ w, (zeroValue 26).run Try.prog w = .ok (.agg Z) w) ∧ Z = Array.replicate 32 (.int .u8 0) := ⟨_, zero_cells Try.infoB32, rfl⟩
  obtain ⟨s, hs⟩ : ∃ s, s = t.data.toList := ⟨_, rfl⟩
  have hsl : s.length = t.size := by rw [hs, size_data]
  obtain ⟨O, hO⟩ : ∃ O : List Value, O = (List.replicate 32 (0 : UInt8)).map byteV := ⟨_, rfl⟩
  have hZO : Z.toList = O := by rw [hZ, hO]; rfl
  have hOl : O.length = 32 := by rw [hO]; rfl
  have hO1 : ∀ v ∈ O, v.oneCell' = true := by rw [hO]; exact byteV_one
  have HI : Hid ((Try.prog.info? 26).map (·.size) = some O.length) := Lib.hid (by rw [hOl]; exact Try.infoB32n)
  have HIH : Hid ((Try.prog.info? 26).map (·.size) = some 32) := Lib.hid Try.infoB32n
  obtain ⟨gh, hgh⟩ : ∃ gh, gh = w.heap.size + 1 := ⟨_, rfl⟩
  obtain ⟨w0, hw0⟩ : ∃ w0, w0 = (w.alloc (.cells Z 26)).alloc (.cells Z 26) := ⟨_, rfl⟩
  have hr0 : Rw w0 w.heap.size w.heap.size 26 O := by rw [hw0, ← hZO]; exact Rw.more (Rw.alloc w 26 Z (Nat.le_refl _)) _
  have hr1 : Rw w0 w.heap.size gh 26 ((outL s 0).map byteV) := by
    have h := Rw.alloc (w.alloc (.cells Z 26)) 26 Z (base := w.heap.size) (by simp)
    have e1 : (w.alloc (.cells Z 26)).heap.size = w.heap.size + 1 := by simp
    rw [hZO, hO, e1] at h
    rw [hw0, hgh, outL_none]
    exact h
  have hb0 : Below w.heap.size w w0 := by rw [hw0]; exact below_more (below_more (Below.refl w.heap.size w) _) _
  have hZs : Z.size = 32 := by rw [hZ]; simp
  have hZ1 : Z.all (·.oneCell') = true := by
    have e : Z = O.toArray := by rw [← hZO, Array.toArray_toList]
    rw [e]
    exact all_oneCell_toArray hO1
  have hr1o : Rw w0 w.heap.size gh 26 O := by rw [outL_none] at hr1; rw [hO]; exact hr1
  have HR1O := Lib.hid hr1o
  have HZS := Lib.hid hZs
  have HZ1 := Lib.hid hZ1
  have HZO := Lib.hid hZO
  have HR0 := Lib.hid hr0
  have HR1 := Lib.hid hr1
  have HB0 := Lib.hid hb0
  have HW0 := Lib.hid hw0
  have HGH := Lib.hid hgh
  have HO := Lib.hid hO
  have HOL := Lib.hid hOl
  have HO1 := Lib.hid hO1
  have HS := Lib.hid hs
  have HSL := Lib.hid hsl
  clear hZ hZO hO hOl hO1 hgh hw0 hr0 hr1 hb0 hsl hZs hZ1 hr1o
  rw [← hs]
  clear hs
  by_cases h64 : t.size = 64
  · have hq : ((t.size : Int) != 64) = false := by rw [bne_eq_false_iff_eq]; omega
    have H64 := Lib.hid h64
    clear h64
    go_enter Try.func13, Try.ntmps13
    go_wp2_with (first | (refine wpList_alloc_z rfl 26 rfl Z hz ?_) | fail)
    rw [← HW0.out]
    simp only [← HGH.out]
    go_loopw [6] (fun i wr => ∃ k : Nat, k ≤ 64 ∧ i = .int .i64 k ∧ Hid (∀ (j : Nat) (c : UInt8), j < k → s[j]? = some c → 0 ≤ ixD c) ∧ Hid (Rw wr w.heap.size gh 26 ((outL s k).map byteV)) ∧ Hid (Rw wr w.heap.size w.heap.size 26 O) ∧ Hid (Below w.heap.size w wr)) (fun i _ => 64 - (intOf i).toNat)
    case atStart => exact ⟨0, by omega, rfl, Lib.hid (fun j c hj _ => by omega), HR1, HR0, HB0⟩
    case round =>
      clear HR1 HR0 HB0 HW0 HR1O
      obtain ⟨k, hk, rfl, HOK, HR, HR0, HB⟩ := hrel
      obtain ⟨w1, hw1⟩ : ∃ w1 : World, w1 = wr := ⟨_, rfl⟩
      subst hw1
      by_cases hlt : k < 64
      · have hs64 : s.length = 64 := by rw [HSL.out, H64.out]
        obtain ⟨x, hx⟩ : ∃ x, s[k]? = some x := ⟨_, List.getElem?_eq_getElem (by omega)⟩
        have HX := Lib.hid hx
        have HKX := Lib.hid (fun W : World => run_char (P := Try.prog) Try.underlying9 t k x (by rw [← HS.out]; exact hx) .i64 (k : Int) rfl W)
        have HBX := Lib.hid (ixD_bound x)
        have HKL := Lib.hid hlt
        have HS64 := Lib.hid hs64
        have hk64 : (k : Int) < 64 := by omega
        clear hs64 hx hk hlt
        go_wp2
        go_loopw [7] (fun i wr => ∃ m : Nat, m ≤ 16 ∧ i = .int .i64 m ∧ Hid (ixD x < 0 ∨ (m : Int) ≤ ixD x) ∧ Hid (Drew w1 wr)) (fun i _ => 16 - (intOf i).toNat)
        case atStart => exact ⟨0, by omega, rfl, Lib.hid (by omega), Lib.hid ⟨0, rfl⟩⟩
        case round =>
          obtain ⟨m, hm, rfl, HM, HD⟩ := hrel
          obtain ⟨w2, hw2⟩ : ∃ w2 : World, w2 = wr := ⟨_, rfl⟩
          subst hw2
          by_cases hm16 : m < 16
          · have kx := HKX.out
            have kd := fun W : World => run_digit (P := Try.prog) (t := 9) Try.underlying9 hm16 .i64 W
            unfold digS at kd
            have HDX := Lib.hid (dig_ix hm16 x)
            obtain ⟨d, hd⟩ : ∃ d, d = hexD m := ⟨_, rfl⟩
            rw [← hd] at kd HDX
            have hmi : (m : Int) < 16 := by omega
            have HML := Lib.hid hm16
            clear hd hm16 hm
            by_cases hdx : d = x
            · have hne : (((d.toNat : Int)) != (x.toNat : Int)) = false := by rw [bne_eq_false_iff_eq, hdx]
              have HIX := Lib.hid (HDX.out.1 hdx)
              obtain ⟨q, hq2⟩ : ∃ q, q = k / 2 := ⟨_, rfl⟩
              have hkq : k = 2 * q ∨ k = 2 * q + 1 := by omega
              have hkl := HKL.out
              have hix := HIX.out
              obtain ⟨v, hv16, hv1, hv2⟩ := outA_step s hkq HX.out (fun c hj hc => HOK.out (2 * q) c hj hc) (by have := HS64.out; omega)
              have hc0 : w2.cell? ⟨gh, q, none⟩ = some (.int .u8 (v : Int)) := by
                refine (HR.out.drew HD.out).cell ?_
                rw [List.getElem?_map, outL_at s k (by omega), hv1]
                show some (Value.int .u8 (((UInt8.ofNat v).toNat : Nat) : Int)) = _
                rw [UInt8.toNat_ofNat', Nat.mod_eq_of_lt (by omega)]
              have hf0 := (HR.out.drew HD.out).free q
              have e1 : (k : Int) / 2 = (q : Int) := by omega
              have e2 : ((m : Int) == 16) = false := by rw [beq_eq_false_iff_ne]; omega
              have hq32 : (q : Int) < 32 := by omega
              have hv16i : (v : Int) < 16 := by omega
              have HVAL : Hid (Value.int .u8 (bits .or .u8 ((v : Int) * 16) (m : Int)) = byteV (outA s (k + 1) q)) := Lib.hid (by
                have hdv : dV x = m := by unfold dV; rw [hix]; exact Int.toNat_natCast m
                rw [or8 hv16 HML.out, hv2, hdv]
                show _ = Value.int .u8 (((UInt8.ofNat (v * 16 + m)).toNat : Nat) : Int)
                have := HML.out
                rw [UInt8.toNat_ofNat', Nat.mod_eq_of_lt (by omega)])
              have HSET := Lib.hid (outL_set s hkq)
              have HV16 := Lib.hid hv16
              clear hdx hq2 hkq hkl hix hv16 hv1 hv2
              go_wp2_with fail
              go_quiet (fail)
              go_wp2_with fail
              go_roundw
              case rel =>
                have hk := HKL.out
                have hgh := HGH.out
                refine ⟨k + 1, by omega, by go_num, Lib.hid ?_, Lib.hid ?_, Lib.hid (Rw.other (HR0.out.drew (HD.out.more _)) (by omega) _ _), Lib.hid ((below_draws HB.out (HD.out.more _)).setCell (by show _ ≤ gh; omega) _)⟩
                · intro j c hj hc
                  rcases Nat.lt_or_ge j k with h | h
                  · exact HOK.out j c h hc
                  · have : j = k := by omega
                    subst this
                    rw [HX.out] at hc
                    cases hc
                    have := HIX.out
                    omega
                · rw [HVAL.out, ← HSET.out, List.map_set]
                  exact Rw.stored (HR.out.drew (HD.out.more _)) _ _
              case measure => have hk := HKL.out; simp [intOf]; omega
            · have hne : (((d.toNat : Int)) != (x.toNat : Int)) = true := by
                rw [bne_iff_ne]
                intro h
                exact hdx (UInt8.toNat_inj.1 (by omega))
              have HNX : Hid (ixD x ≠ (m : Int)) := Lib.hid (fun h => hdx (HDX.out.2 h))
              clear hdx
              go_wp2_with fail
              go_quiet (fail)
              go_wp2
              go_roundw
              case rel =>
                have h1 := HML.out
                refine ⟨m + 1, by omega, by go_num, Lib.hid ?_, Lib.hid (HD.out.more _)⟩
                have h2 := HNX.out
                have h3 := HM.out
                omega
              case measure => have h1 := HML.out; simp [intOf]; omega
          · have hm : m = 16 := by omega
            have hbad : ixD x < 0 := by have := HM.out; have := HBX.out; omega
            have HNO := Lib.hid (parV_no (parOk_no HX.out hbad))
            have hd : decide ((m : Int) < 16) = false := by simp; omega
            have hnm : ¬ ((m : Int) < 16) := by omega
            have e2 : ((m : Int) == 16) = true := by rw [beq_iff_eq]; omega
            have hr0 := HR0.out.drew HD.out
            have HR0D := Lib.hid hr0
            have HBD := Lib.hid (below_draws HB.out HD.out)
            clear hm hbad hr0 hm16
            go_wp2_with fail
            go_quiet (fail)
            go_wp2_with (refine wpList_store_mid rfl 26 _ _ rfl w.heap.size 0 Z rfl rfl (Rw.there (Rw.drew HR0D.out ⟨_, rfl⟩) 0 _ (by rw [HZS.out, HOL.out]; exact Nat.le_refl 32)) (by rw [HIH.out, HZS.out]) HZ1.out ?_)
            rw [HZO.out]
            have hend := Rw.storedAll (Rw.drew HR0D.out ⟨nq, rfl⟩) O rfl
            rw [HNO.out, ← HO.out]
            try simp only [Exit.inBlock, Exit.then]
            refine bodyPost_ret (v := .tuple #[.agg O.toArray, .bool false]) ?_ rfl ⟨rfl, below_setCells (Nat.le_refl _) _ _ _ (below_draws HBD.out ⟨_, rfl⟩)⟩
            exact results_row_tmp rfl _ _ w.heap.size w.heap.size _ O _ rfl hend Try.underlying26 rfl HI.out _ rfl
      · have h64k : k = 64 := by omega
        have hok := HOK.out
        have hr := HR.out
        rw [h64k] at hok hr
        rw [outL_full] at hr
        have HYES := Lib.hid (parV_yes (parOk_yes (s := s) (by rw [HSL.out, H64.out]) hok))
        obtain ⟨F, hF⟩ : ∃ F, F = (parL s 32).map byteV := ⟨_, rfl⟩
        rw [← hF] at hr HYES
        have hFl : F.length = 32 := by rw [hF]; simp [parL]
        have h1c : ∀ v ∈ F, v.oneCell' = true := by rw [hF]; exact byteV_one
        have HRF := Lib.hid hr
        have HOF : Hid (O.length = F.length) := Lib.hid (by rw [HOL.out, hFl])
        have HIF : Hid ((Try.prog.info? 26).map (·.size) = some F.length) := Lib.hid (by rw [hFl]; exact HIH.out)
        have HC := Lib.hid h1c
        have hn64 : ¬ ((k : Int) < 64) := by omega
        clear h64k hok hr hF hFl h1c hlt hk HR HOK
        go_wp2_with (first | (refine wpList_load_mid rfl 26 _ rfl gh 0 rfl F _ HRF.out.whole Try.underlying26 rfl HIF.out ?_) | (refine wpList_store_mid rfl 26 _ _ rfl w.heap.size 0 F.toArray rfl rfl (HR0.out.there 0 _ (by rw [HOF.out]; simp)) (by rw [HIF.out]; simp) (all_oneCell_toArray HC.out) ?_))
        have hend := HR0.out.storedAll F HOF.out
        rw [HYES.out]
        refine bodyPost_ret (v := .tuple #[.agg F.toArray, .bool true]) ?_ rfl ⟨rfl, below_setCells (Nat.le_refl _) _ _ _ HB.out⟩
        exact results_row_tmp rfl _ _ w.heap.size w.heap.size _ F _ rfl hend Try.underlying26 rfl HIF.out _ rfl
  · have hq : ((t.size : Int) != 64) = true := by rw [bne_iff_ne]; omega
    have HNO := Lib.hid (parV_no (parOk_len (s := s) (by rw [HSL.out]; exact h64)))
    clear h64
    go_enter Try.func13, Try.ntmps13
    go_wp2_with (first | (refine wpList_alloc_z rfl 26 rfl Z hz ?_) | (refine wpList_load_mid rfl 26 _ rfl (w.heap.size + 1) 0 rfl O _ (by rw [← HW0.out, ← HGH.out]; exact HR1O.out.whole) Try.underlying26 rfl HI.out ?_) | (refine wpList_store_mid rfl 26 _ _ rfl w.heap.size 0 O.toArray rfl rfl (by rw [← HW0.out]; exact HR0.out.there 0 _ (by simp)) (by rw [HI.out]; simp) (all_oneCell_toArray HO1.out) ?_))
    rw [← HW0.out]
    have hend := HR0.out.storedAll O rfl
    rw [HNO.out, ← HO.out]
    refine bodyPost_ret (v := .tuple #[.agg O.toArray, .bool false]) ?_ rfl ⟨rfl, below_setCells (Nat.le_refl _) _ _ _ HB0.out⟩
    exact results_row_tmp rfl _ _ w.heap.size w.heap.size _ O _ rfl hend Try.underlying26 rfl HI.out _ rfl

end Go.Proofs.Ytcpioladmcidcaa
