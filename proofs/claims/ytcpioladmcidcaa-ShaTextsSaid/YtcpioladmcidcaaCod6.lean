/- Contracts: the code's end, Sum and New. -/
import Derived.Deep.RegionHeld3
import Derived.Deep.RegionLaw
import Derived.BigRegion
import Derived.Test.YtcpioladmcidcaaProg
import Derived.Test.YtcpioladmcidcaaKit
import Derived.Test.YtcpioladmcidcaaInfo
import Derived.Test.YtcpioladmcidcaaRow
import Derived.Test.YtcpioladmcidcaaSha
import Derived.Test.YtcpioladmcidcaaRow2
import Derived.Test.YtcpioladmcidcaaLit
import Derived.Test.YtcpioladmcidcaaCod2
import Derived.Test.YtcpioladmcidcaaCod3
import Derived.Test.YtcpioladmcidcaaDig0
import Derived.Test.YtcpioladmcidcaaCod4
import Derived.Test.YtcpioladmcidcaaCod5
namespace Go.Proofs.Ytcpioladmcidcaa
open Go.RowKit Go.Proofs

theorem DigAt.below {w w' : World} {base g : Nat} {l : List UInt8} (h : DigAt w base g l) (hb : Below w.heap.size w w') : DigAt w' base g l := by
  obtain ⟨s, b, h1, h2, hr⟩ := h
  exact ⟨s, b, h1, h2, hr.below hb⟩

theorem Rw.byAt {w : World} {base g : Nat} {e : TypeId} {l m : List UInt8} (h : Rw w base g e (l.map byteV)) (k : Nat) (hm : l.take k = m) : ByAt w g 0 m := fun j x hj => by
  rw [Nat.zero_add]
  refine h.cell ?_
  rw [← hm, List.getElem?_take] at hj
  split at hj
  · rw [List.getElem?_map, hj]; rfl
  · cases hj

set_option maxRecDepth 100000 in
set_option maxHeartbeats 1000000 in
theorem end_any (base g : Nat) (l : List UInt8) (w : World) (hd : DigAt w base g l) (hl : l.length < 4294967296) :
    Calls Try.prog 25 #[.pointer (some ⟨g, 0, none⟩)] w fun e w' => e = .returned (.tuple #[]) ∧ DigAt w' base g (l ++ tailS l.length) ∧ Save w.heap.size g w w' := by
  obtain ⟨N, hN⟩ : ∃ N, N = l.length := ⟨_, rfl⟩
  have hgw : g < w.heap.size := by obtain ⟨s, b, _, _, hr⟩ := hd; exact hr.size
  rw [← hN] at hl
  obtain ⟨Z, hz, hZ⟩ : ∃ Z, (∀ w, (zeroValue 71).run Try.prog w = .ok (.agg Z) w) ∧ Z = Array.replicate 72 (.int .u8 0) := ⟨_, zero_cells Try.infoB72, rfl⟩
  have hr2 : Rw (w.alloc (.cells (Z.setIfInBounds 0 (.int .u8 128)) 71)) w.heap.size w.heap.size 71 ((tailUp N 0).map byteV) := by
    have h := Rw.alloc w 71 (Z.setIfInBounds 0 (.int .u8 128)) (base := w.heap.size) (Nat.le_refl _)
    rw [tailUp_zero]
    rw [hZ] at h ⊢
    exact h
  have hs2 : Below w.heap.size w (w.alloc (.cells (Z.setIfInBounds 0 (.int .u8 128)) 71)) := below_more (Below.refl w.heap.size w) _
  have c8 : w.cell? ⟨g, 8, none⟩ = some (.int .u64 (N : Int)) := by
    obtain ⟨s, b, _, _, hr⟩ := hd
    rw [hN]
    exact hr.cell digL_num
  have hzs : 0 < Z.size := by rw [hZ]; simp
  obtain ⟨z, hzz⟩ : ∃ z, z = padZ N := ⟨_, rfl⟩
  have hz64 : (z : Int) < 64 := by have := padZ_lt N; omega
  have hpad : (IntKind.u64.wrap (55 - (N : Int))).tmod 64 = (z : Int) := by
    rw [IntKind.wrap_u64, Int.tmod_eq_emod_of_nonneg (by omega), hzz]
    unfold padZ
    omega
  have hsl2 : ∀ W, (Instr.slice 23 (.slice (some ⟨w.heap.size, 1 + z, none⟩) (72 - (1 + z)) (72 - (1 + z))) none (some (.int .i64 8)) none).run Try.prog W = .ok (.slice (some ⟨w.heap.size, 1 + z, none⟩) 8 (72 - (1 + z))) W := fun W => by
    rw [run_slice_h W 23 (some ⟨w.heap.size, 1 + z, none⟩) (72 - (1 + z)) (72 - (1 + z)) (by kernel_rfl) .i64 8 (by omega) (by omega), run_size1 (by kernel_rfl)]
    simp [Result.andThen, sliced, Addr.add_mid]
  have hne : ¬ g = w.heap.size := by omega
  have hz1 : 1 + (z : Int) ≤ 72 := by omega
  have hz0 : 0 ≤ 1 + (z : Int) := by omega
  have hz72 : ¬ 72 = 1 + z := by omega
  have HN := Lib.hid hN
  have HD := Lib.hid hd
  have HR2 := Lib.hid hr2
  have HS2 := Lib.hid hs2
  have HZZ := Lib.hid hzz
  have C8 := Lib.hid c8
  clear hN hd hZ hr2 hs2 hzz
  go_enter Try.func25, Try.ntmps25
  go_wp2_with (refine wpList_alloc_z rfl 71 rfl Z hz ?_)
  have hz2 : 1 + (z : Int) + 8 ≤ 72 := by omega
  have hz3 : 0 ≤ 1 + (z : Int) + 8 := by omega
  obtain ⟨gt, hgt⟩ : ∃ gt, gt = w.heap.size := ⟨_, rfl⟩
  rw [← hgt] at HR2 HS2
  simp only [← hgt]
  clear c8 hsl2 hz hpad hne
  have hgg : g < gt := by omega
  generalize w.alloc (.cells (Z.setIfInBounds 0 (.int .u8 128)) 71) = w0 at HR2 HS2 ⊢
  have HGT := Lib.hid hgt
  clear hgt
  go_loopw [19] (fun i wr => ∃ k : Nat, k ≤ 8 ∧ i = .int .i64 k ∧ Hid (Rw wr gt gt 71 ((tailUp N k).map byteV)) ∧ Hid (Below gt w wr)) (fun i _ => 8 - (intOf i).toNat)
  case atStart => exact ⟨0, by omega, rfl, HR2, HS2⟩
  case round =>
    clear HR2 HS2
    obtain ⟨k, hk, rfl, HR, HS⟩ := hrel
    obtain ⟨w1, hw1⟩ : ∃ w1 : World, w1 = wr := ⟨_, rfl⟩
    subst hw1
    by_cases hlt : k < 8
    · have hat := tailUp_at N k hlt
      rw [← HZZ.out] at hat
      have cz : w1.cell? ⟨gt, 1 + z + k, none⟩ = some (.int .u8 0) := HR.out.cell (by rw [List.getElem?_map, hat]; rfl)
      have fz := HR.out.free (1 + z + k)
      have c8 : w1.cell? ⟨g, 8, none⟩ = some (.int .u64 (N : Int)) := (HS.out.cell (p := ⟨g, 8, none⟩) hgg).trans C8.out
      obtain ⟨j, hj⟩ : ∃ j, j = 7 - k := ⟨_, rfl⟩
      have hjk : (7 : Int) - (k : Int) = (j : Int) := by omega
      have hy : (k : Int) < 8 := by omega
      have hj8 : (j : Int) < 8 := by omega
      have HV : Hid (Value.int .u8 (8 * (N : Int) / 2 ^ (8 * j) % 256) = byteV (N * 8 / 2 ^ (8 * (7 - k))).toUInt8) := Lib.hid (by
        rw [← hj]
        unfold byteV
        congr 1
        rw [Nat.toUInt8_eq, UInt8.toNat_ofNat', Nat.mul_comm N 8]
        push_cast
        rfl)
      have HSET := Lib.hid (tailUp_set N k hlt)
      have HKL := Lib.hid hlt
      have HJ := Lib.hid hj
      clear hat hj hk
      go_wp2
      go_roundw
      case rel =>
        have hk := HKL.out
        refine ⟨k + 1, by omega, by go_num, Lib.hid ?_, Lib.hid ?_⟩
        · rw [HV.out, ← HSET.out, List.map_set, ← HZZ.out]
          exact HR.out.stored _ _
        · exact HS.out.setCell (Nat.le_refl _) _
      case measure => have hk := HKL.out; simp [intOf]; omega
    · have h8 : k = 8 := by omega
      have hr := HR.out
      rw [h8] at hr
      have hby : ByAt w1 gt 0 (tailS N) := hr.byAt (9 + padZ N) (tailUp_all N)
      have hw1 : DigAt w1 base g l := HD.out.below (by rw [← HGT.out]; exact HS.out)
      have hwr := write_any base g l (tailS N) (some ⟨gt, 0, none⟩) 72 w1 hw1 (.inr ⟨gt, 0, rfl, by omega, hby⟩) (by rw [tailS_len]; have := padZ_lt N; omega) (by rw [tailS_len, ← HN.out]; have := padZ_lt N; omega)
      rw [show (tailS N).length = 1 + z + 8 from by rw [tailS_len, ← HZZ.out]; omega] at hwr
      have HWR := Lib.hid hwr
      have hsv : Save gt g w w1 := Save.of HS.out
      have HSV := Lib.hid hsv
      have hk8 : ¬ ((k : Int) < 8) := by omega
      clear h8 hr hby hw1 hwr hsv hlt hk HR
      go_wp2_with fail
      refine (HWR.out).mono ?_
      rintro e w2 ⟨rfl, hd2, hs2⟩
      have HD2 := Lib.hid hd2
      have HS2 := Lib.hid hs2
      clear hd2 hs2
      go_wp2
      go_end0
      have hgt := HGT.out
      have hfin := HSV.out.trans (HS2.out.less (by rw [hgt]; exact HS.out.size))
      rw [hgt] at hfin
      rw [← HN.out]
      exact ⟨rfl, HD2.out, hfin⟩

/-- The digest's zero value. -/
def zH8 : H8 := ⟨0, 0, 0, 0, 0, 0, 0, 0⟩

theorem dig_zero {Z : Array Value} (hZ : Z = Array.replicate 8 (.int .u32 0) ++ #[.int .u64 0] ++ Array.replicate 64 (.int .u8 0)) : Z.toList = digL zH8 (([] : List UInt8).length : Nat) (List.replicate 64 0) := by
  rw [hZ]
  rfl

theorem digAt_zero {w : World} {base g : Nat} {Z : Array Value} (hZ : Z = Array.replicate 8 (.int .u32 0) ++ #[.int .u64 0] ++ Array.replicate 64 (.int .u8 0)) (h : Rw w base g 47 Z.toList) : DigAt w base g [] := by
  rw [dig_zero hZ] at h
  exact ⟨zH8, List.replicate 64 0, ⟨by simp, rfl⟩, fun h => absurd rfl h, h⟩

theorem Try.infoDign : (Try.prog.info? 47).map (·.size) = some 73 := (zero_of_info Try.infoDig).2

theorem digL_one (s : H8) (n : Int) (b : List UInt8) : ∀ v ∈ digL s n b, v.oneCell' = true := by
  intro v hv
  unfold digL at hv
  rcases List.mem_append.1 hv with h | h
  · obtain ⟨x, _, rfl⟩ := List.mem_map.1 h; rfl
  · rcases List.mem_cons.1 h with rfl | h
    · rfl
    · obtain ⟨x, _, rfl⟩ := List.mem_map.1 h; rfl

/-- The sum of l as a value. -/
def shaV (l : List UInt8) : Value := .agg ((shaS kL h0S l).bytes.map byteV).toArray

set_option maxRecDepth 100000 in
set_option maxHeartbeats 1000000 in
theorem dsum_any (base g : Nat) (l : List UInt8) (w : World) (hd : DigAt w base g l) (hl : l.length < 4294967296) :
    Calls Try.prog 18 #[.pointer (some ⟨g, 0, none⟩)] w fun e w' => e = .returned (shaV l) ∧ Below w.heap.size w w' := by
  obtain ⟨Z, hz, hZ⟩ : ∃ Z, (∀ w, (zeroValue 27).run Try.prog w = .ok (.agg Z) w) ∧ Z = Array.replicate 32 (.int .u8 0) := ⟨_, zero_cells Try.infoHash, rfl⟩
  obtain ⟨D, hD, hDD⟩ : ∃ D, (∀ w, (zeroValue 47).run Try.prog w = .ok (.agg D) w) ∧ D = Array.replicate 8 (.int .u32 0) ++ #[.int .u64 0] ++ Array.replicate 64 (.int .u8 0) := ⟨_, zero_cells Try.infoDig, rfl⟩
  obtain ⟨s, b, hwt, hws, hr⟩ := hd
  have hgw := hr.size
  obtain ⟨L, hL⟩ : ∃ L, L = digL s l.length b := ⟨_, rfl⟩
  have hLl : L.length = 73 := by rw [hL]; exact digL_len _ _ _ hwt.1
  have h1c : ∀ v ∈ L, v.oneCell' = true := by rw [hL]; exact digL_one _ _ _
  rw [← hL] at hr
  obtain ⟨w0, hw0⟩ : ∃ w0, w0 = (w.alloc (.cells Z 27)).alloc (.cells D 47) := ⟨_, rfl⟩
  obtain ⟨gd, hgd⟩ : ∃ gd, gd = w.heap.size + 1 := ⟨_, rfl⟩
  have hb0 : Below w.heap.size w w0 := by rw [hw0]; exact below_more (below_more (Below.refl w.heap.size w) _) _
  have hr0 : Rw w0 w.heap.size w.heap.size 27 Z.toList := by rw [hw0]; exact Rw.more (Rw.alloc w 27 Z (Nat.le_refl _)) _
  have hr1 : Rw w0 w.heap.size gd 47 D.toList := by
    have h := Rw.alloc (w.alloc (.cells Z 27)) 47 D (base := w.heap.size) (by simp)
    rw [hw0, hgd]
    simpa using h
  have hrg := hr.below hb0
  have HRG := Lib.hid hrg
  have HR0 := Lib.hid hr0
  have HR1 := Lib.hid hr1
  have HB0 := Lib.hid hb0
  have HW0 := Lib.hid hw0
  have HGD := Lib.hid hgd
  have HWT := Lib.hid hwt
  have HWS := Lib.hid hws
  have HL := Lib.hid hL
  have HC := Lib.hid h1c
  have HI : Hid ((Try.prog.info? 47).map (·.size) = some L.length) := Lib.hid (by rw [hLl]; exact Try.infoDign)
  have HDL : Hid (D.toList.length = L.length) := Lib.hid (by rw [hLl, hDD]; rfl)
  have HIH : Hid ((Try.prog.info? 27).map (·.size) = some 32) := Lib.hid Try.infoHashn
  have HZ := Lib.hid hZ
  clear hZ hDD hwt hws hr hL hLl h1c hw0 hgd hb0 hr0 hr1 hrg
  go_enter Try.func18, Try.ntmps18
  go_wp2_with (first | (refine wpList_alloc_z rfl 27 rfl Z hz ?_) | (refine wpList_alloc_z rfl 47 rfl D hD ?_) | (refine wpList_load_mid rfl 47 _ rfl g 0 rfl L _ (by rw [← HW0.out]; exact HRG.out.whole) Try.underlying47 rfl HI.out ?_) | (refine wpList_store_mid rfl 47 _ _ rfl (w.heap.size + 1) 0 L.toArray rfl rfl (by rw [← HW0.out, ← HGD.out]; exact HR1.out.there 0 _ (by rw [HDL.out]; simp)) (by rw [HI.out]; simp) (all_oneCell_toArray HC.out) ?_) | fail)
  rw [← HW0.out]
  simp only [← HGD.out]
  have hr2 := HR1.out.storedAll L HDL.out
  have hd2 : DigAt (w0.setCells gd 0 L) w.heap.size gd l := ⟨s, b, HWT.out, HWS.out, by rw [← HL.out]; exact hr2⟩
  have hb2 : Below w.heap.size w (w0.setCells gd 0 L) := below_setCells (by rw [HGD.out]; omega) _ _ _ HB0.out
  have hr3 : Rw (w0.setCells gd 0 L) w.heap.size w.heap.size 27 Z.toList := HR0.out.otherAll (by rw [HGD.out]; omega) _ _
  generalize w0.setCells gd 0 L = w2 at hd2 hb2 hr3 ⊢
  have HD2 := Lib.hid hd2
  have HB2 := Lib.hid hb2
  have HR3 := Lib.hid hr3
  clear hr2 hd2 hb2 hr3
  refine (end_any w.heap.size gd l w2 HD2.out hl).mono ?_
  rintro e w3 ⟨rfl, hd3, hs3⟩
  have HD3 := Lib.hid hd3
  have HS3 := Lib.hid hs3
  clear hd3 hs3
  go_wp2_with fail
  obtain ⟨s3, b3, _, hws3, hr3⟩ := HD3.out
  have he3 := words_pad hws3
  refine (hash_any w.heap.size gd s3 _ b3 w3 hr3).mono ?_
  rintro e w4 ⟨rfl, hb4⟩
  rw [he3]
  obtain ⟨F, hF⟩ : ∃ F, F = (shaS kL h0S l).bytes.map byteV := ⟨_, rfl⟩
  have hFV : shaV l = .agg F.toArray := by rw [hF]; rfl
  rw [← hF]
  have hFl : F.length = 32 := by rw [hF]; rfl
  have h1f : ∀ v ∈ F, v.oneCell' = true := by rw [hF]; exact byteV_one
  have hb34 : Below w.heap.size w w4 := (HS3.out.below HB2.out (by rw [HGD.out]; omega) HB2.out.size).trans (hb4.mono (Nat.le_trans HB2.out.size HS3.out.size))
  have hr4 : Rw w4 w.heap.size w.heap.size 27 Z.toList := (HR3.out.save HS3.out HR3.out.size (by rw [HGD.out]; omega)).below hb4
  have HFV := Lib.hid hFV
  have HR4 := Lib.hid hr4
  have HB4 := Lib.hid hb34
  have HC2 := Lib.hid h1f
  have HIF : Hid ((Try.prog.info? 27).map (·.size) = some F.length) := Lib.hid (by rw [hFl]; exact HIH.out)
  have HZL : Hid (Z.toList.length = F.length) := Lib.hid (by rw [HZ.out, hFl]; simp)
  clear he3 hF hFV hFl h1f hb34 hr4 hb4 hws3 hr3
  go_wp2_with (refine wpList_store_mid rfl 27 _ _ rfl w.heap.size 0 F.toArray rfl rfl (HR4.out.there 0 _ (by rw [HZL.out]; simp)) (by rw [HIF.out]; simp) (all_oneCell_toArray HC2.out) ?_)
  have hend := HR4.out.storedAll F HZL.out
  refine bodyPost_ret (v := .agg F.toArray) ?_ rfl ⟨by rw [HFV.out], below_setCells (Nat.le_refl _) _ _ _ HB4.out⟩
  exact results_cell_row rfl _ _ w.heap.size _ _ _ _ rfl hend.2 Try.underlying27 rfl (by rw [HIF.out]; simp)

set_option maxRecDepth 100000 in
set_option maxHeartbeats 1000000 in
theorem dsum_nil (w : World) :
    Calls Try.prog 18 #[.pointer none] w fun e w' => e = .returned (shaV []) ∧ Below w.heap.size w w' := by
  obtain ⟨l, hl⟩ : ∃ l : List UInt8, l = [] := ⟨_, rfl⟩
  obtain ⟨Z, hz, hZ⟩ : ∃ Z, (∀ w, (zeroValue 27).run Try.prog w = .ok (.agg Z) w) ∧ Z = Array.replicate 32 (.int .u8 0) := ⟨_, zero_cells Try.infoHash, rfl⟩
  obtain ⟨D, hD, hDD⟩ : ∃ D, (∀ w, (zeroValue 47).run Try.prog w = .ok (.agg D) w) ∧ D = Array.replicate 8 (.int .u32 0) ++ #[.int .u64 0] ++ Array.replicate 64 (.int .u8 0) := ⟨_, zero_cells Try.infoDig, rfl⟩
  obtain ⟨w2, hw2⟩ : ∃ w2, w2 = (w.alloc (.cells Z 27)).alloc (.cells D 47) := ⟨_, rfl⟩
  obtain ⟨gd, hgd⟩ : ∃ gd, gd = w.heap.size + 1 := ⟨_, rfl⟩
  have hb2 : Below w.heap.size w w2 := by rw [hw2]; exact below_more (below_more (Below.refl w.heap.size w) _) _
  have hr3 : Rw w2 w.heap.size w.heap.size 27 Z.toList := by rw [hw2]; exact Rw.more (Rw.alloc w 27 Z (Nat.le_refl _)) _
  have hr1 : Rw w2 w.heap.size gd 47 D.toList := by
    have h := Rw.alloc (w.alloc (.cells Z 27)) 47 D (base := w.heap.size) (by simp)
    rw [hw2, hgd]
    simpa using h
  have hd2 := digAt_zero hDD hr1
  rw [← hl] at hd2 ⊢
  have hll : l.length < 4294967296 := by rw [hl]; decide
  have HD2 := Lib.hid hd2
  have HB2 := Lib.hid hb2
  have HR3 := Lib.hid hr3
  have HW2 := Lib.hid hw2
  have HGD := Lib.hid hgd
  have HLL := Lib.hid hll
  have HIH : Hid ((Try.prog.info? 27).map (·.size) = some 32) := Lib.hid Try.infoHashn
  have HZ := Lib.hid hZ
  clear hZ hDD hw2 hgd hb2 hr3 hr1 hd2 hll hl
  go_enter Try.func18, Try.ntmps18
  go_wp2_with (first | (refine wpList_alloc_z rfl 27 rfl Z hz ?_) | (refine wpList_alloc_z rfl 47 rfl D hD ?_) | fail)
  rw [← HW2.out]
  simp only [← HGD.out]
  refine (end_any w.heap.size gd l w2 HD2.out HLL.out).mono ?_
  rintro e w3 ⟨rfl, hd3, hs3⟩
  have HD3 := Lib.hid hd3
  have HS3 := Lib.hid hs3
  clear hd3 hs3
  go_wp2_with fail
  obtain ⟨s3, b3, _, hws3, hr3⟩ := HD3.out
  have he3 := words_pad hws3
  refine (hash_any w.heap.size gd s3 _ b3 w3 hr3).mono ?_
  rintro e w4 ⟨rfl, hb4⟩
  rw [he3]
  obtain ⟨F, hF⟩ : ∃ F, F = (shaS kL h0S l).bytes.map byteV := ⟨_, rfl⟩
  have hFV : shaV l = .agg F.toArray := by rw [hF]; rfl
  rw [← hF]
  have hFl : F.length = 32 := by rw [hF]; rfl
  have h1f : ∀ v ∈ F, v.oneCell' = true := by rw [hF]; exact byteV_one
  have hb34 : Below w.heap.size w w4 := (HS3.out.below HB2.out (by rw [HGD.out]; omega) HB2.out.size).trans (hb4.mono (Nat.le_trans HB2.out.size HS3.out.size))
  have hr4 : Rw w4 w.heap.size w.heap.size 27 Z.toList := (HR3.out.save HS3.out HR3.out.size (by rw [HGD.out]; omega)).below hb4
  have HFV := Lib.hid hFV
  have HR4 := Lib.hid hr4
  have HB4 := Lib.hid hb34
  have HC2 := Lib.hid h1f
  have HIF : Hid ((Try.prog.info? 27).map (·.size) = some F.length) := Lib.hid (by rw [hFl]; exact HIH.out)
  have HZL : Hid (Z.toList.length = F.length) := Lib.hid (by rw [HZ.out, hFl]; simp)
  clear he3 hF hFV hFl h1f hb34 hr4 hb4 hws3 hr3
  go_wp2_with (refine wpList_store_mid rfl 27 _ _ rfl w.heap.size 0 F.toArray rfl rfl (HR4.out.there 0 _ (by rw [HZL.out]; simp)) (by rw [HIF.out]; simp) (all_oneCell_toArray HC2.out) ?_)
  have hend := HR4.out.storedAll F HZL.out
  refine bodyPost_ret (v := .agg F.toArray) ?_ rfl ⟨by rw [HFV.out], below_setCells (Nat.le_refl _) _ _ _ HB4.out⟩
  exact results_cell_row rfl _ _ w.heap.size _ _ _ _ rfl hend.2 Try.underlying27 rfl (by rw [HIF.out]; simp)

end Go.Proofs.Ytcpioladmcidcaa
