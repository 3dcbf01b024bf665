/- Contracts: the code's schedule. -/
import Derived.Deep.RegionHeld3
import Derived.BigRegion
import Derived.Test.YtcpioladmcidcaaProg
import Derived.Test.YtcpioladmcidcaaKit
import Derived.Test.YtcpioladmcidcaaInfo
import Derived.Test.YtcpioladmcidcaaRow
import Derived.Test.YtcpioladmcidcaaU32
import Derived.Test.YtcpioladmcidcaaSha
import Derived.Test.YtcpioladmcidcaaCod1
namespace Go.Proofs.Ytcpioladmcidcaa
open Go.RowKit Go.Proofs

/-- The bytes of a block: they stand one by one. -/
def ByAt (w : World) (g o : Nat) (l : List UInt8) : Prop := ∀ j (x : UInt8), l[j]? = some x → w.cell? ⟨g, o + j, none⟩ = some (.int .u8 (x.toNat : Int))

theorem ByAt.below {w w' : World} {g o : Nat} {l : List UInt8} (h : ByAt w g o l) (hb : Below w.heap.size w w') : ByAt w' g o l := fun j x hj => by
  have h1 := h j x hj
  rw [hb.cell (block_of_cell h1)]
  exact h1

theorem sched_full (l : List UInt8) (k : Nat) (h : 48 ≤ k) (hk : k ≤ 48) : sched (words l 16) k ++ List.replicate (48 - k) 0 = sched (words l 16) 48 := by
  obtain rfl : k = 48 := by omega
  simp

set_option maxRecDepth 100000 in
set_option maxHeartbeats 1000000 in
theorem schedule_any (g o : Nat) (l : List UInt8) (w : World) (hl : l.length = 64) (hb : ByAt w g o l) :
    Calls Try.prog 31 #[.pointer (some ⟨g, o, none⟩)] w fun e w' => e = .returned (.agg ((sched (words l 16) 48).map wV).toArray) ∧ Below w.heap.size w w' := by
  have HBC := Lib.hid hb
  have HL := Lib.hid hl
  clear hb hl
  obtain ⟨Z, hz, hZ⟩ : ∃ Z, (∀ w, (zeroValue 53).run Try.prog w = .ok (.agg Z) w) ∧ Z = Array.replicate 64 (.int .u32 0) := ⟨_, zero_cells Try.infoW64, rfl⟩
  have HZ := Lib.hid hZ
  clear hZ
  go_enter Try.func31, Try.ntmps31
  go_wp2_with (refine wpList_alloc_z rfl 53 rfl Z hz ?_)
  obtain ⟨gp, hgp⟩ : ∃ gp, gp = w.heap.size + 1 := ⟨_, rfl⟩
  have hr0 : Rw ((w.alloc (.cells Z 53)).alloc (.cells Z 53)) w.heap.size w.heap.size 53 Z.toList := Rw.more (Rw.alloc w 53 Z (Nat.le_refl _)) _
  have hr1 : Rw ((w.alloc (.cells Z 53)).alloc (.cells Z 53)) w.heap.size gp 53 ((List.replicate 64 (0 : UInt32)).map wV) := by
    have := Rw.alloc (w.alloc (.cells Z 53)) 53 Z (base := w.heap.size) (by simp)
    rw [hgp]
    rw [HZ.out] at this ⊢
    simpa [wV, iw] using this
  have hs0 : Below w.heap.size w ((w.alloc (.cells Z 53)).alloc (.cells Z 53)) := below_more (below_more (Below.refl w.heap.size w) _) _
  simp only [← hgp]
  generalize (w.alloc (.cells Z 53)).alloc (.cells Z 53) = w0 at hr0 hr1 hs0 ⊢
  have HR0 := Lib.hid hr0
  have HW0 := Lib.hid hr1
  have HS0 := Lib.hid hs0
  have HGP : Hid (gp = w.heap.size + 1) := Lib.hid hgp
  clear hr0 hr1 hs0 hgp
  go_loopw [10] (fun i wr => ∃ k : Nat, k ≤ 16 ∧ i = .int .i64 k ∧ Hid (Rw wr w.heap.size gp 53 ((words l k ++ List.replicate (64 - k) 0).map wV)) ∧ Hid (Rw wr w.heap.size w.heap.size 53 Z.toList) ∧ Hid (Below w.heap.size w wr)) (fun i _ => 16 - (intOf i).toNat)
  case atStart => exact ⟨0, by omega, rfl, HW0, HR0, HS0⟩
  case round =>
    clear HW0 HR0 HS0
    obtain ⟨k, hk, rfl, HW, HR, HS⟩ := hrel
    obtain ⟨w1, hw1⟩ : ∃ w1 : World, w1 = wr := ⟨_, rfl⟩
    subst hw1
    by_cases hlt : k < 16
    · have hget : ∀ i, i < 64 → ∃ x, l[i]? = some x ∧ w1.cell? ⟨g, o + i, none⟩ = some (.int .u8 (x.toNat : Int)) := fun i hi => by
        obtain ⟨x, h1⟩ : ∃ x, l[i]? = some x := ⟨_, List.getElem?_eq_getElem (by rw [HL.out]; exact hi)⟩
        exact ⟨x, h1, (HBC.out.below HS.out) i x h1⟩
      obtain ⟨x0, hx0, c0⟩ := hget (4 * k) (by omega)
      obtain ⟨x1, hx1, c1⟩ := hget (4 * k + 1) (by omega)
      obtain ⟨x2, hx2, c2⟩ := hget (4 * k + 2) (by omega)
      obtain ⟨x3, hx3, c3⟩ := hget (4 * k + 3) (by omega)
      have hcw : w1.cell? ⟨gp, k, none⟩ = some (wV 0) := HW.out.cell (by
        rw [List.getElem?_map, List.getElem?_append_right (by simp [words]), List.getElem?_replicate, if_pos (by simp [words]; omega)]
        rfl)
      have hfw := HW.out.free k
      have HX : Hid (word4 l k = x0.toUInt32 <<< 24 ||| x1.toUInt32 <<< 16 ||| x2.toUInt32 <<< 8 ||| x3.toUInt32) := Lib.hid (by
        unfold word4
        simp only [List.getD_eq_getElem?_getD, hx0, hx1, hx2, hx3, Option.getD_some])
      have HV : Hid (Value.int .u32 (bits .or .u32 (bits .or .u32 (bits .or .u32 ((x0.toNat : Int) % 4294967296 * 16777216 % 4294967296) ((x1.toNat : Int) % 4294967296 * 65536 % 4294967296)) ((x2.toNat : Int) % 4294967296 * 256 % 4294967296)) ((x3.toNat : Int) % 4294967296)) = wV (word4 l k)) := Lib.hid (by
        simp only [iw_byte, iw_shl24, iw_shl16, iw_shl8, iw_or, HX.out]
        rfl)
      have y0 : 4 * (k : Int) < 64 := by omega
      have y1 : 4 * (k : Int) + 1 < 64 := by omega
      have y2 : 4 * (k : Int) + 2 < 64 := by omega
      have y3 : 4 * (k : Int) + 3 < 64 := by omega
      have y4 : (k : Int) < 64 := by omega
      have y5 : (k : Int) < 16 := by omega
      have HKK := Lib.hid hlt
      clear hget hx0 hx1 hx2 hx3 hlt hk
      go_wp2_with fail
      go_region
      go_wp2
      go_roundw
      case rel =>
        have hlt := HKK.out
        have hgp := HGP.out
        refine ⟨k + 1, by omega, by go_num, ?_, ?_, ?_⟩
        · rw [HV.out]
          have := HW.out.stored k (wV (word4 l k))
          rw [← List.map_set, show 64 - k = (64 - (k + 1)) + 1 from by omega, List.replicate_succ, words_set l k 0] at this
          exact Lib.hid this
        · exact Lib.hid (HR.out.other (by omega) _ _)
        · rw [HV.out]
          exact Lib.hid ((HS.out.setCell (by show _ ≤ gp; omega) _).trans (below_draws (Below.refl _ _) ⟨1, rfl⟩))
      case measure => have := HKK.out; simp [intOf]; omega
    · have h16 : k = 16 := by omega
      have HW2 : Hid (Rw w1 w.heap.size gp 53 ((sched (words l 16) 0 ++ List.replicate (48 - 0) 0).map wV)) := Lib.hid (by have := HW.out; rw [h16] at this; exact this)
      have hn16 : ¬ ((k : Int) < 16) := by omega
      clear h16 hlt hk HW
      go_wp2
      go_loopw [5] (fun i wr => ∃ k n : Nat, n = 16 + k ∧ k ≤ 48 ∧ i = .int .i64 n ∧ Hid (Rw wr w.heap.size gp 53 ((sched (words l 16) k ++ List.replicate (48 - k) 0).map wV)) ∧ Hid (Rw wr w.heap.size w.heap.size 53 Z.toList) ∧ Hid (Below w.heap.size w wr)) (fun i _ => 64 - (intOf i).toNat)
      case atStart => exact ⟨0, 16, rfl, by omega, rfl, HW2, HR, HS⟩
      case round =>
        clear HW2 HS HR
        obtain ⟨k, n, hn, hk, rfl, HW, HR, HS⟩ := hrel
        obtain ⟨w1, hw1⟩ : ∃ w1 : World, w1 = wr := ⟨_, rfl⟩
        subst hw1
        by_cases hlt : k < 48
        · obtain ⟨R, hR⟩ : ∃ R, R = sched (words l 16) k := ⟨_, rfl⟩
          have hRl : R.length = 16 + k := by rw [hR, sched_len]; simp [words]
          have hat : ∀ j, j < 16 + k → w1.cell? ⟨gp, j, none⟩ = some (.int .u32 (iw (R.getD j 0))) := fun j hj => HW.out.cell (by
            rw [← hR, List.getElem?_map, List.getElem?_append_left (by omega), List.getElem?_eq_getElem (by omega), List.getD_eq_getElem?_getD, List.getElem?_eq_getElem (by omega)]
            rfl)
          obtain ⟨x0, hx0⟩ : ∃ x, x = R.getD k 0 := ⟨_, rfl⟩
          obtain ⟨x1, hx1⟩ : ∃ x, x = R.getD (k + 1) 0 := ⟨_, rfl⟩
          obtain ⟨x9, hx9⟩ : ∃ x, x = R.getD (k + 9) 0 := ⟨_, rfl⟩
          obtain ⟨x14, hx14⟩ : ∃ x, x = R.getD (k + 14) 0 := ⟨_, rfl⟩
          have c0 := hat (n - 16) (by omega)
          have c1 := hat (n - 15) (by omega)
          have c9 := hat (n - 7) (by omega)
          have c14 := hat (n - 2) (by omega)
          rw [show n - 16 = k from by omega, ← hx0] at c0
          rw [show n - 15 = k + 1 from by omega, ← hx1] at c1
          rw [show n - 7 = k + 9 from by omega, ← hx9] at c9
          rw [show n - 2 = k + 14 from by omega, ← hx14] at c14
          have z15 : ((n : Int) - 15) = ((k + 1 : Nat) : Int) := by omega
          have z2 : ((n : Int) - 2) = ((k + 14 : Nat) : Int) := by omega
          have z7 : ((n : Int) - 7) = ((k + 9 : Nat) : Int) := by omega
          have z16 : ((n : Int) - 16) = ((k : Nat) : Int) := by omega
          have hcw : w1.cell? ⟨gp, n, none⟩ = some (.int .u32 0) := HW.out.cell (by
            rw [← hR, List.getElem?_map, List.getElem?_append_right (by omega), List.getElem?_replicate, if_pos (by omega)]
            rfl)
          have hfw := HW.out.free n
          have HRR := Lib.hid hR
          have HX0 := Lib.hid hx0
          have HX1 := Lib.hid hx1
          have HX9 := Lib.hid hx9
          have HX14 := Lib.hid hx14
          have HNN := Lib.hid hn
          have HKK := Lib.hid hlt
          have y5 : (n : Int) < 64 := by omega
          have y6 : 16 ≤ (n : Int) := by omega
          have y7 : (k : Int) < 48 := by omega
          have HV : Hid (Value.int .u32 ((iw x0 + bits .xor .u32 (bits .xor .u32 (iw (rr x1 7)) (iw (rr x1 18))) (iw x1 / (8 : Int)) + iw x9 + bits .xor .u32 (bits .xor .u32 (iw (rr x14 17)) (iw (rr x14 19))) (iw x14 / (1024 : Int))) % (4294967296 : Int)) = wV (x0 + sig0 x1 + x9 + sig1 x14)) := Lib.hid (by
            simp only [iw_xor, iw_shr3, iw_shr10, iw_sum4]
            rfl)
          have HC0 := Lib.hid c0
          have HC9 := Lib.hid c9
          have HCW := Lib.hid hcw
          have HFW := Lib.hid hfw
          have Z16 := Lib.hid z16
          have Z7 := Lib.hid z7
          clear hat hR hx0 hx1 hx9 hx14 hRl hn hlt hk c0 c9 hcw hfw z16 z7
          go_wp2_with fail
          go_quiet (fail)
          clear c1 c14 z15 z2
          obtain ⟨w3, hw3⟩ : ∃ w3, w3 = w1.drewN nq := ⟨_, rfl⟩
          rw [← hw3]
          have HW3 := Lib.hid hw3
          clear hw3
          go_wp2_with fail
          refine (rot_any x1 7 (-7) rfl (by decide) _).mono ?_
          rintro e w' ⟨rfl, rfl⟩
          go_wp2_with fail
          refine (rot_any x1 18 (-18) rfl (by decide) _).mono ?_
          rintro e w' ⟨rfl, rfl⟩
          go_wp2_with fail
          refine (rot_any x14 17 (-17) rfl (by decide) _).mono ?_
          rintro e w' ⟨rfl, rfl⟩
          go_wp2_with fail
          refine (rot_any x14 19 (-19) rfl (by decide) _).mono ?_
          rintro e w' ⟨rfl, rfl⟩
          have c0 : w3.cell? ⟨gp, k, none⟩ = some (.int .u32 (iw x0)) := by rw [HW3.out]; exact HC0.out
          have c9 : w3.cell? ⟨gp, k + 9, none⟩ = some (.int .u32 (iw x9)) := by rw [HW3.out]; exact HC9.out
          have cw : w3.cell? ⟨gp, n, none⟩ = some (.int .u32 0) := by rw [HW3.out]; exact HCW.out
          have fw : w3.frozen? ⟨gp, n, none⟩ = false := by rw [HW3.out]; exact HFW.out
          have z16 := Z16.out
          have z7 := Z7.out
          go_wp2_with fail
          go_region
          go_wp2
          go_roundw
          case rel =>
            have hn := HNN.out
            have hk := HKK.out
            have hgp := HGP.out
            have HWx : Rw w3 w.heap.size gp 53 ((sched (words l 16) k ++ List.replicate (48 - k) 0).map wV) := by rw [HW3.out]; exact HW.out
            have HRx : Rw w3 w.heap.size w.heap.size 53 Z.toList := by rw [HW3.out]; exact HR.out
            have HSx : Below w.heap.size w w3 := by rw [HW3.out]; exact below_drewN HS.out nq
            refine ⟨k + 1, n + 1, by omega, by omega, by go_num, ?_, ?_, ?_⟩
            · rw [HV.out]
              have := HWx.stored n (wV (x0 + sig0 x1 + x9 + sig1 x14))
              rw [← List.map_set, show 48 - k = (48 - (k + 1)) + 1 from by omega, List.replicate_succ, HX0.out, HX1.out, HX9.out, HX14.out, HRR.out, sched_set (words l 16) k n 0 (by rw [words_len]; exact hn)] at this
              rw [HX0.out, HX1.out, HX9.out, HX14.out, HRR.out]
              exact Lib.hid this
            · exact Lib.hid (HRx.other (by omega) _ _)
            · exact Lib.hid ((HSx.setCell (by show _ ≤ gp; omega) _).trans (below_draws (Below.refl _ _) ⟨1, rfl⟩))
          case measure =>
            have hk := HKK.out
            have hn := HNN.out
            simp [intOf]; omega
        · have he := sched_full l k (by omega) hk
          obtain ⟨W, hW⟩ : ∃ W, W = (sched (words l 16) 48).map wV := ⟨_, rfl⟩
          have hr := HW.out
          rw [he, ← hW] at hr
          have hWl : W.length = 64 := by rw [hW, List.length_map, sched_len, words_len]
          have h1c : ∀ v ∈ W, v.oneCell' = true := by rw [hW]; intro v hv; obtain ⟨x, _, rfl⟩ := List.mem_map.1 hv; rfl
          have HWE := Lib.hid hW
          have HRW := Lib.hid hr
          have HZL : Hid (Z.toList.length = W.length) := Lib.hid (by rw [HZ.out, hWl]; simp)
          have HI : Hid ((Try.prog.info? 53).map (·.size) = some W.length) := Lib.hid (by rw [hWl]; exact Try.infoW64n)
          have HC := Lib.hid h1c
          have hn64 : ¬ ((n : Int) < 64) := by omega
          clear he hW hr hWl h1c hn hlt hk HW
          go_wp2_with (first | (refine wpList_load_mid rfl 53 _ rfl gp 0 rfl W _ HRW.out.whole Try.underlying53 rfl HI.out ?_) | (refine wpList_store_mid rfl 53 _ _ rfl w.heap.size 0 W.toArray rfl rfl (HR.out.there 0 _ (by rw [HZL.out]; simp)) (by rw [HI.out]; simp) (all_oneCell_toArray HC.out) ?_))
          have hend := HR.out.storedAll W HZL.out
          refine bodyPost_ret (v := .agg W.toArray) ?_ rfl ⟨by rw [HWE.out], below_setCells (Nat.le_refl _) _ _ _ HS.out⟩
          exact results_cell_row rfl _ _ w.heap.size _ _ _ _ rfl hend.2 Try.underlying53 rfl (by rw [HI.out]; simp)

end Go.Proofs.Ytcpioladmcidcaa
