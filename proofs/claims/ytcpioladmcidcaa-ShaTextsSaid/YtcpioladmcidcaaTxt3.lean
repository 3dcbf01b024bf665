/- Contracts: the code's Parse. -/
import Derived.Deep.RegionHeld3
import Derived.Deep.RegionLaw
import Derived.BigRegion
import Derived.Test.YtcpioladmcidcaaProg
import Derived.Test.YtcpioladmcidcaaShelf
import Derived.Test.YtcpioladmcidcaaKit
import Derived.Test.YtcpioladmcidcaaInfo
import Derived.Test.YtcpioladmcidcaaRow
import Derived.Test.YtcpioladmcidcaaCod5
import Derived.Test.YtcpioladmcidcaaCod7
import Derived.Test.YtcpioladmcidcaaCod8
import Derived.Test.YtcpioladmcidcaaLens
import Derived.Test.YtcpioladmcidcaaGoes
import Derived.Test.YtcpioladmcidcaaTxt2
namespace Go.Proofs.Ytcpioladmcidcaa
open Go.RowKit Go.Proofs

theorem idx_any (x : UInt8) (w : World) : Calls Try.prog 22 #[.string ⟨#[48, 49, 50, 51, 52, 53, 54, 55, 56, 57, 97, 98, 99, 100, 101, 102]⟩, .int .u8 (x.toNat : Int)] w fun e w' => e = .returned (.int .i64 (ixD x)) ∧ w = w' := by
  refine (Try.strings_IndexByte ⟨#[48, 49, 50, 51, 52, 53, 54, 55, 56, 57, 97, 98, 99, 100, 101, 102]⟩ (x.toNat : Int) w).mono ?_
  rintro e w' ⟨rfl, rfl⟩
  refine ⟨?_, rfl⟩
  rw [Int.toNat_natCast, Nat.toUInt8_eq, UInt8.ofNat_toNat]
  rfl

set_option maxRecDepth 100000 in
set_option maxHeartbeats 2000000 in
theorem parse_any (t : ByteArray) (w : World) :
    Calls Try.prog 12 #[.string t] w fun e w' => e = .returned (parV t.data.toList) ∧ Below w.heap.size w w' := by
  obtain ⟨Z, hz, hZ⟩ : ∃ Z, (∀ w, (zeroValue 27).run Try.prog w = .ok (.agg Z) w) ∧ Z = Array.replicate 32 (.int .u8 0) := ⟨_, zero_cells Try.infoHash, rfl⟩
  obtain ⟨s, hs⟩ : ∃ s, s = t.data.toList := ⟨_, rfl⟩
  have hsl : s.length = t.size := by rw [hs, size_data]
  obtain ⟨O, hO⟩ : ∃ O : List Value, O = (List.replicate 32 (0 : UInt8)).map byteV := ⟨_, rfl⟩
  have hZO : Z.toList = O := by rw [hZ, hO]; rfl
  have hOl : O.length = 32 := by rw [hO]; rfl
  have hO1 : ∀ v ∈ O, v.oneCell' = true := by rw [hO]; exact byteV_one
  have HI : Hid ((Try.prog.info? 27).map (·.size) = some O.length) := Lib.hid (by rw [hOl]; exact Try.infoHashn)
  have HIH : Hid ((Try.prog.info? 27).map (·.size) = some 32) := Lib.hid Try.infoHashn
  obtain ⟨gh, hgh⟩ : ∃ gh, gh = w.heap.size + 1 := ⟨_, rfl⟩
  obtain ⟨w0, hw0⟩ : ∃ w0, w0 = (w.alloc (.cells Z 27)).alloc (.cells Z 27) := ⟨_, rfl⟩
  have hr0 : Rw w0 w.heap.size w.heap.size 27 O := by rw [hw0, ← hZO]; exact Rw.more (Rw.alloc w 27 Z (Nat.le_refl _)) _
  have hr1 : Rw w0 w.heap.size gh 27 ((parL s 0 ++ List.replicate (32 - 0) 0).map byteV) := by
    have h := Rw.alloc (w.alloc (.cells Z 27)) 27 Z (base := w.heap.size) (by simp)
    have e0 : parL s 0 ++ List.replicate (32 - 0) 0 = List.replicate 32 (0 : UInt8) := rfl
    have e1 : (w.alloc (.cells Z 27)).heap.size = w.heap.size + 1 := by simp
    rw [hZO, hO, e1] at h
    rw [hw0, hgh, e0]
    exact h
  have hb0 : Below w.heap.size w w0 := by rw [hw0]; exact below_more (below_more (Below.refl w.heap.size w) _) _
  have HR0 := Lib.hid hr0
  have HR1 := Lib.hid hr1
  have HB0 := Lib.hid hb0
  have HW0 := Lib.hid hw0
  have HGH := Lib.hid hgh
  have HO := Lib.hid hO
  have HOL := Lib.hid hOl
  have HO1 := Lib.hid hO1
  have HS := Lib.hid hs
  have HSL := Lib.hid hsl
  have hZs : Z.size = 32 := by rw [hZ]; simp
  have hZ1 : Z.all (·.oneCell') = true := by
    have e : Z = O.toArray := by rw [← hZO, Array.toArray_toList]
    rw [e]
    exact all_oneCell_toArray hO1
  have HZS := Lib.hid hZs
  have HZ1 := Lib.hid hZ1
  have HZO := Lib.hid hZO
  clear hZ hZO hO hOl hO1 hgh hw0 hr0 hr1 hb0 hsl hZs hZ1
  rw [← hs]
  clear hs
  by_cases h64 : t.size = 64
  · have hq : ((t.size : Int) != 64) = false := by rw [bne_eq_false_iff_eq]; omega
    have H64 := Lib.hid h64
    clear h64
    go_enter Try.func12, Try.ntmps12
    go_wp2_with (first | (refine wpList_alloc_z rfl 27 rfl Z hz ?_) | fail)
    rw [← HW0.out]
    simp only [← HGH.out]
    go_loopw [12] (fun i wr => ∃ k : Nat, k ≤ 32 ∧ i = .int .i64 k ∧ Hid (∀ (j : Nat) (c : UInt8), j < 2 * k → s[j]? = some c → 0 ≤ ixD c) ∧ Hid (Rw wr w.heap.size gh 27 ((parL s k ++ List.replicate (32 - k) 0).map byteV)) ∧ Hid (Rw wr w.heap.size w.heap.size 27 O) ∧ Hid (Below w.heap.size w wr)) (fun i _ => 32 - (intOf i).toNat)
    case atStart => exact ⟨0, by omega, rfl, Lib.hid (fun j c hj _ => by omega), HR1, HR0, HB0⟩
    case round =>
      clear HR1 HR0 HB0 HW0
      obtain ⟨k, hk, rfl, HOK, HR, HR0, HB⟩ := hrel
      obtain ⟨w1, hw1⟩ : ∃ w1 : World, w1 = wr := ⟨_, rfl⟩
      subst hw1
      by_cases hlt : k < 32
      · have hs64 : s.length = 64 := by rw [HSL.out, H64.out]
        obtain ⟨x, hx⟩ : ∃ x, s[2 * k]? = some x := ⟨_, List.getElem?_eq_getElem (by omega)⟩
        obtain ⟨y, hy⟩ : ∃ y, s[2 * k + 1]? = some y := ⟨_, List.getElem?_eq_getElem (by omega)⟩
        have kx : ∀ W : World, (Instr.index 9 (.string t) (.int .i64 (2 * (k : Int)))).run Try.prog W = .ok (.int .u8 (x.toNat : Int)) W := fun W => run_char Try.underlying9 t (2 * k) x (by rw [← HS.out]; exact hx) .i64 _ (by omega) W
        have ky : ∀ W : World, (Instr.index 9 (.string t) (.int .i64 (2 * (k : Int) + 1))).run Try.prog W = .ok (.int .u8 (y.toNat : Int)) W := fun W => run_char Try.underlying9 t (2 * k + 1) y (by rw [← HS.out]; exact hy) .i64 _ (by omega) W
        have HX := Lib.hid hx
        have HY := Lib.hid hy
        have HBX := Lib.hid (ixD_bound x)
        have HBY := Lib.hid (ixD_bound y)
        have HIX := Lib.hid (idx_any x)
        have HIY := Lib.hid (idx_any y)
        obtain ⟨ix, hix⟩ : ∃ ix, ix = ixD x := ⟨_, rfl⟩
        obtain ⟨iy, hiy⟩ : ∃ iy, iy = ixD y := ⟨_, rfl⟩
        rw [← hix] at HIX HBX
        rw [← hiy] at HIY HBY
        have HIXE := Lib.hid hix
        have HIYE := Lib.hid hiy
        have hbx1 := HBX.out.1
        have hbx2 := HBX.out.2
        have hby1 := HBY.out.1
        have hby2 := HBY.out.2
        have HKL := Lib.hid hlt
        have hk32 : (k : Int) < 32 := by omega
        clear hs64 hx hy hix hiy hk
        by_cases hnx : ix < 0
        · have HNO := Lib.hid (parV_no (parOk_no HX.out (by rw [← HIXE.out]; exact hnx)))
          go_wp2_with fail
          refine (HIX.out w1).mono ?_
          rintro e w2 ⟨rfl, rfl⟩
          go_wp2_with fail
          refine (HIY.out w1).mono ?_
          rintro e w2 ⟨rfl, rfl⟩
          go_wp2_with (refine wpList_store_mid rfl 27 _ _ rfl w.heap.size 0 Z rfl rfl (HR0.out.there 0 _ (by rw [HZS.out, HOL.out]; exact Nat.le_refl 32)) (by rw [HIH.out, HZS.out]) HZ1.out ?_)
          rw [HZO.out]
          have hend := HR0.out.storedAll O rfl
          rw [HNO.out, ← HO.out]
          try simp only [Exit.inBlock, Exit.then]
          refine bodyPost_ret (v := .tuple #[.agg O.toArray, .bool false]) ?_ rfl ⟨rfl, below_setCells (Nat.le_refl _) _ _ _ HB.out⟩
          exact results_row_tmp rfl _ _ w.heap.size w.heap.size _ O _ rfl hend Try.underlying27 rfl HI.out _ rfl
        · by_cases hny : iy < 0
          · have HNO := Lib.hid (parV_no (parOk_no HY.out (by rw [← HIYE.out]; exact hny)))
            go_wp2_with fail
            refine (HIX.out w1).mono ?_
            rintro e w2 ⟨rfl, rfl⟩
            go_wp2_with fail
            refine (HIY.out w1).mono ?_
            rintro e w2 ⟨rfl, rfl⟩
            go_wp2_with (refine wpList_store_mid rfl 27 _ _ rfl w.heap.size 0 Z rfl rfl (HR0.out.there 0 _ (by rw [HZS.out, HOL.out]; exact Nat.le_refl 32)) (by rw [HIH.out, HZS.out]) HZ1.out ?_)
            rw [HZO.out]
            have hend := HR0.out.storedAll O rfl
            rw [HNO.out, ← HO.out]
            try simp only [Exit.inBlock, Exit.then]
            refine bodyPost_ret (v := .tuple #[.agg O.toArray, .bool false]) ?_ rfl ⟨rfl, below_setCells (Nat.le_refl _) _ _ _ HB.out⟩
            exact results_row_tmp rfl _ _ w.heap.size w.heap.size _ O _ rfl hend Try.underlying27 rfl HI.out _ rfl
          · obtain ⟨a, ha⟩ : ∃ a : Nat, ix = (a : Int) := ⟨ix.toNat, by omega⟩
            obtain ⟨b, hb⟩ : ∃ b : Nat, iy = (b : Int) := ⟨iy.toNat, by omega⟩
            subst ha hb
            have ha16 : (a : Int) < 16 := hbx2
            have hb16 : (b : Int) < 16 := hby2
            have HVAL : Hid (Value.int .u8 (bits .or .i64 ((a : Int) * 16) (b : Int) % 256) = byteV (parB x y)) := Lib.hid (by
              rw [or4 (by omega) (by omega)]
              unfold parB dV byteV
              rw [← HIXE.out, ← HIYE.out]
              congr 1)
            have HSET := Lib.hid (parL_set (s := s) HKL.out HX.out HY.out)
            have hcz : w1.cell? ⟨gh, k, none⟩ = some (.int .u8 0) := HR.out.cell (by
              rw [List.getElem?_map, List.getElem?_append_right (by simp [parL]), List.getElem?_replicate, if_pos (by have := HKL.out; simp [parL]; omega)]
              rfl)
            have hfz := HR.out.free k
            clear hbx1 hbx2 hby1 hby2 HBX HBY
            go_wp2_with fail
            refine (HIX.out w1).mono ?_
            rintro e w2 ⟨rfl, rfl⟩
            go_wp2_with fail
            refine (HIY.out w1).mono ?_
            rintro e w2 ⟨rfl, rfl⟩
            go_wp2_with fail
            go_roundw
            case rel =>
              have hk := HKL.out
              have hgh := HGH.out
              refine ⟨k + 1, by omega, by go_num, Lib.hid ?_, Lib.hid ?_, Lib.hid (HR0.out.other (by omega) _ _), Lib.hid (HB.out.setCell (by show _ ≤ gh; omega) _)⟩
              · intro j c hj hc
                rcases Nat.lt_or_ge j (2 * k) with h | h
                · exact HOK.out j c h hc
                · rcases Nat.lt_or_ge (2 * k) j with h2 | h2
                  · have : j = 2 * k + 1 := by omega
                    subst this
                    rw [HY.out] at hc
                    cases hc
                    rw [← HIYE.out]
                    omega
                  · have : j = 2 * k := by omega
                    subst this
                    rw [HX.out] at hc
                    cases hc
                    rw [← HIXE.out]
                    omega
              · rw [HVAL.out, ← HSET.out]
                exact HR.out.stored _ _
            case measure => have hk := HKL.out; simp [intOf]; omega
      · have h32 : k = 32 := by omega
        have hok := HOK.out
        have hr := HR.out
        rw [h32] at hok hr
        rw [Nat.sub_self, List.replicate_zero, List.append_nil] at hr
        have HYES := Lib.hid (parV_yes (parOk_yes (s := s) (by rw [HSL.out, H64.out]) (fun j c hj hc => hok j c (by omega) hc)))
        obtain ⟨F, hF⟩ : ∃ F, F = (parL s 32).map byteV := ⟨_, rfl⟩
        rw [← hF] at hr HYES
        have hFl : F.length = 32 := by rw [hF]; simp [parL]
        have h1c : ∀ v ∈ F, v.oneCell' = true := by rw [hF]; exact byteV_one
        have HRF := Lib.hid hr
        have HOF : Hid (O.length = F.length) := Lib.hid (by rw [HOL.out, hFl])
        have HIF : Hid ((Try.prog.info? 27).map (·.size) = some F.length) := Lib.hid (by rw [hFl]; exact HIH.out)
        have HC := Lib.hid h1c
        have hn32 : ¬ ((k : Int) < 32) := by omega
        clear h32 hok hr hF hFl h1c hlt hk HR HOK
        go_wp2_with (first | (refine wpList_load_mid rfl 27 _ rfl gh 0 rfl F _ HRF.out.whole Try.underlying27 rfl HIF.out ?_) | (refine wpList_store_mid rfl 27 _ _ rfl w.heap.size 0 F.toArray rfl rfl (HR0.out.there 0 _ (by rw [HOF.out]; simp)) (by rw [HIF.out]; simp) (all_oneCell_toArray HC.out) ?_))
        have hend := HR0.out.storedAll F HOF.out
        rw [HYES.out]
        refine bodyPost_ret (v := .tuple #[.agg F.toArray, .bool true]) ?_ rfl ⟨rfl, below_setCells (Nat.le_refl _) _ _ _ HB.out⟩
        exact results_row_tmp rfl _ _ w.heap.size w.heap.size _ F _ rfl hend Try.underlying27 rfl HIF.out _ rfl
  · have hq : ((t.size : Int) != 64) = true := by rw [bne_iff_ne]; omega
    have HNO := Lib.hid (parV_no (parOk_len (s := s) (by rw [HSL.out]; exact h64)))
    clear h64
    go_enter Try.func12, Try.ntmps12
    go_wp2_with (first | (refine wpList_alloc_z rfl 27 rfl Z hz ?_) | (refine wpList_store_mid rfl 27 _ _ rfl w.heap.size 0 Z rfl rfl (by rw [← HW0.out]; exact HR0.out.there 0 _ (by rw [HZS.out, HOL.out]; exact Nat.le_refl 32)) (by rw [HIH.out, HZS.out]) HZ1.out ?_))
    rw [← HW0.out, HZO.out]
    have hend := HR0.out.storedAll O rfl
    rw [HNO.out, ← HO.out]
    refine bodyPost_ret (v := .tuple #[.agg O.toArray, .bool false]) ?_ rfl ⟨rfl, below_setCells (Nat.le_refl _) _ _ _ HB0.out⟩
    exact results_row_tmp rfl _ _ w.heap.size w.heap.size _ O _ rfl hend Try.underlying27 rfl HI.out _ rfl

end Go.Proofs.Ytcpioladmcidcaa
