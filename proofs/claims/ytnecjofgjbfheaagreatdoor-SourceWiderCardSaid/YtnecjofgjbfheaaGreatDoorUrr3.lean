/- The reference's reader of URLs: URL itself. -/
import Derived.Lib.OthersKept
import Derived.Deep.MidRow
import Derived.Test.YtnecjofgjbfheaaGreatDoorProg
import Derived.Test.YtnecjofgjbfheaaGreatDoorKit
import Derived.Test.YtnecjofgjbfheaaGreatDoorPlain
import Derived.Test.YtnecjofgjbfheaaGreatDoorStr
import Derived.Test.YtnecjofgjbfheaaGreatDoorAsc1
import Derived.Test.YtnecjofgjbfheaaGreatDoorAsc4
import Derived.Test.YtnecjofgjbfheaaGreatDoorRow
import Derived.Test.YtnecjofgjbfheaaGreatDoorTxt2
import Derived.Test.YtnecjofgjbfheaaGreatDoorFp
import Derived.Test.YtnecjofgjbfheaaGreatDoorMd1
import Derived.Test.YtnecjofgjbfheaaGreatDoorPct0
import Derived.Test.YtnecjofgjbfheaaGreatDoorPct3
import Derived.Test.YtnecjofgjbfheaaGreatDoorPct7
import Derived.Test.YtnecjofgjbfheaaGreatDoorHst0
import Derived.Test.YtnecjofgjbfheaaGreatDoorHst1
import Derived.Test.YtnecjofgjbfheaaGreatDoorUrl0
import Derived.Test.YtnecjofgjbfheaaGreatDoorUrl3
import Derived.Test.YtnecjofgjbfheaaGreatDoorUrl4
import Derived.Test.YtnecjofgjbfheaaGreatDoorUrl9
import Derived.Test.YtnecjofgjbfheaaGreatDoorUrr1
import Derived.Test.YtnecjofgjbfheaaGreatDoorUrr2
namespace Go.Proofs.YtnecjofgjbfheaaGreatDoor
open Go.RowKit Go.Proofs
set_option maxRecDepth 100000

theorem skip_yes (t : ByteArray) (h : 0 < t.size) (hs : hasB [47, 92] t[0] = true) : skipL (t.extract 1 t.size).data.toList = skipL t.data.toList := by
  rw [extract_list, List.take_of_length_le (by rw [size_data]; exact Nat.le_refl _)]
  conv => rhs; rw [cons_of t h]
  unfold skipL
  rw [List.dropWhile_cons, if_pos hs]

theorem skip_no (t : ByteArray) (h : 0 < t.size) (hs : hasB [47, 92] t[0] = false) : skipL t.data.toList = t.data.toList := by
  conv => lhs; rw [cons_of t h]
  conv => rhs; rw [cons_of t h]
  unfold skipL
  rw [List.dropWhile_cons, if_neg (by simp [hs])]

theorem skip_ways (c : UInt8) : (hasB [47, 92] c = true ∧ (((c.toNat : Int) == 47) = true ∨ (((c.toNat : Int) == 47) = false ∧ ((c.toNat : Int) == 92) = true))) ∨ (hasB [47, 92] c = false ∧ ((c.toNat : Int) == 47) = false ∧ ((c.toNat : Int) == 92) = false) :=
  byte_all (p := fun c => (hasB [47, 92] c = true ∧ (((c.toNat : Int) == 47) = true ∨ (((c.toNat : Int) == 47) = false ∧ ((c.toNat : Int) == 92) = true))) ∨ (hasB [47, 92] c = false ∧ ((c.toNat : Int) == 47) = false ∧ ((c.toNat : Int) == 92) = false)) (by decide +kernel) c

theorem sch_lt {l : List UInt8} (h : (defP (lowL (l.take (schN l)))).2 = true) : schN l < l.length := by
  by_cases hc : l ≠ [] ∧ isLet (l.getD 0 0).toNat = true ∧ l[schK l]? = some 58
  · unfold schN
    rw [if_pos hc]
    exact (List.getElem?_eq_some_iff.1 hc.2.2).1
  · exfalso
    unfold schN at h
    rw [if_neg hc, List.take_zero] at h
    exact absurd h (by decide)

theorem path_head {q : List UInt8} (hq : q = [] ∨ ∃ c r, q = c :: r ∧ hasB authE c = true) (hn : upL [63] (upL [35] q) ≠ []) : ∃ c r, upL [63] (upL [35] q) = c :: r ∧ sepB c = true := by
  rcases hq with rfl | ⟨c, r, rfl, hc⟩
  · exact absurd rfl hn
  · have key : hasB [35] c = false → hasB [63] c = false → sepB c = true := byte_all (p := fun c => hasB authE c = true → hasB [35] c = false → hasB [63] c = false → sepB c = true) (by decide +kernel) c hc
    cases h1 : hasB [35] c
    · cases h2 : hasB [63] c
      · rw [up_miss h1, up_miss h2]
        exact ⟨c, _, rfl, key h1 h2⟩
      · rw [up_miss h1, up_hit h2] at hn
        exact absurd rfl hn
    · rw [up_hit h1] at hn
      exact absurd rfl hn

def tailU (sch : List UInt8) (a : AutM) (q : List UInt8) : UrlM :=
  ⟨sch, a.usr, a.pas, a.hos, a.prt, pathP (upL [63] (upL [35] q)), decide (fromL [63] (upL [35] q) ≠ []), encL 2 ((fromL [63] (upL [35] q)).drop 1), decide (fromL [35] q ≠ []), encL 1 ((fromL [35] q).drop 1)⟩

theorem tail_tail (sch : List UInt8) (a : AutM) (q : List UInt8) : tailP sch a q = tailU sch a q := by
  obtain ⟨h1, h2, h3⟩ := tail_two q
  unfold tailP tailU
  rw [h1, h2, h3, frag_two, up_two]

set_option maxHeartbeats 8000000 in
theorem rurl_any (s : ByteArray) (hs : s.size ≤ 1073741824) (w : World) :
    Calls Tryz.prog 46 #[.string s] w fun e w' => e = .returned (urlR (urlP s.data.toList)) ∧ Below w.heap.size w w' := by
  have hz := zero_cells Tryz.infoUrl
  obtain ⟨R, hR⟩ : ∃ R, R = urlP s.data.toList := ⟨_, rfl⟩
  rw [← hR]
  have HR0 : Hid (Rw (w.alloc (.cells #[.string ⟨#[]⟩, .string ⟨#[]⟩, .string ⟨#[]⟩, .string ⟨#[]⟩, .int .i64 0, .string ⟨#[]⟩, .bool false, .string ⟨#[]⟩, .bool false, .string ⟨#[]⟩] 31)) 0 w.heap.size 31 (urlCells urlZ)) := Lib.hid (Rw.alloc w _ _ (Nat.zero_le _))
  have HB0 : Hid (Below w.heap.size w (w.alloc (.cells #[.string ⟨#[]⟩, .string ⟨#[]⟩, .string ⟨#[]⟩, .string ⟨#[]⟩, .int .i64 0, .string ⟨#[]⟩, .bool false, .string ⟨#[]⟩, .bool false, .string ⟨#[]⟩] 31))) := Lib.hid (below_more (Below.refl _ _) _)
  have HU := Lib.hid (fun W => ref_utf8_any s hs W)
  by_cases hbig : 65536 < s.size
  · have HRN : Hid (R = none) := Lib.hid (by rw [hR]; unfold urlP; rw [if_neg (by rw [size_data]; omega)])
    have hbz : (65536 : Int) < (s.size : Int) := by omega
    clear hR hbig
    go_enter Tryz.func46, Tryz.ntmps46
    go_wp2_with (first | (refine wpList_alloc_z rfl 31 rfl #[.string ⟨#[]⟩, .string ⟨#[]⟩, .string ⟨#[]⟩, .string ⟨#[]⟩, .int .i64 0, .string ⟨#[]⟩, .bool false, .string ⟨#[]⟩, .bool false, .string ⟨#[]⟩] hz ?_) | (refine wpList_store_mid rfl 31 _ _ rfl w.heap.size 0 (urlCells urlZ).toArray rfl rfl (Rw.there HR0.out 0 _ (by simp [urlCells])) Tryz.sizeUrl (url_one _) ?_) | fail)
    have HWZ := Rw.storedAll HR0.out (urlCells urlZ) rfl
    refine bodyPost_ret (v := .tuple #[urlV urlZ, .int .i64 8]) ?_ rfl ?_
    case refine_2 => rw [HRN.out]; exact ⟨rfl, below_stores HB0.out (Nat.le_refl _) _⟩
    exact results_row_tmp rfl _ _ w.heap.size 0 31 (urlCells urlZ) _ rfl HWZ Tryz.underlying31 rfl Tryz.sizeUrl (.int .i64 8) rfl
  have hbz : ¬ (65536 : Int) < (s.size : Int) := by omega
  have hss : s.size ≤ 65536 := by omega
  cases hv : Lib.validD s.data.toList
  · have HRN : Hid (R = none) := Lib.hid (by rw [hR]; unfold urlP; rw [if_neg (by rintro ⟨_, h⟩; rw [hv] at h; exact absurd h (by decide))])
    rw [hv] at HU
    clear hR hbig hv
    go_enter Tryz.func46, Tryz.ntmps46
    go_wp2_with (first | (refine wpList_alloc_z rfl 31 rfl #[.string ⟨#[]⟩, .string ⟨#[]⟩, .string ⟨#[]⟩, .string ⟨#[]⟩, .int .i64 0, .string ⟨#[]⟩, .bool false, .string ⟨#[]⟩, .bool false, .string ⟨#[]⟩] hz ?_) | fail)
    refine (HU.out _).mono ?_
    rintro e w1 ⟨rfl, rfl⟩
    go_wp2_with (first | (refine wpList_store_mid rfl 31 _ _ rfl w.heap.size 0 (urlCells urlZ).toArray rfl rfl (Rw.there HR0.out 0 _ (by simp [urlCells])) Tryz.sizeUrl (url_one _) ?_) | fail)
    have HWZ := Rw.storedAll HR0.out (urlCells urlZ) rfl
    refine bodyPost_ret (v := .tuple #[urlV urlZ, .int .i64 8]) ?_ rfl ?_
    case refine_2 => rw [HRN.out]; exact ⟨rfl, below_stores HB0.out (Nat.le_refl _) _⟩
    exact results_row_tmp rfl _ _ w.heap.size 0 31 (urlCells urlZ) _ rfl HWZ Tryz.underlying31 rfl Tryz.sizeUrl (.int .i64 8) rfl
  rw [hv] at HU
  have hRR : R = bodyP (cleanL s.data.toList) := by rw [hR]; unfold urlP; rw [if_pos ⟨by rw [size_data]; exact hss, hv⟩]
  have HCL := Lib.hid (fun W => rclean_any s hs W)
  obtain ⟨t, ht⟩ : ∃ t : ByteArray, t = ⟨(cleanL s.data.toList).toArray⟩ := ⟨_, rfl⟩
  have htl : t.data.toList = cleanL s.data.toList := by rw [ht]
  have htz : t.size ≤ 65536 := by
    have := clean_len s.data.toList
    rw [← size_data, htl]
    rw [size_data] at this
    omega
  have HCL2 : Hid (∀ W, Calls Tryz.prog 80 #[.string s] W fun e w' => e = .returned (.string t) ∧ Below W.heap.size W w') := Lib.hid (fun W => by rw [ht]; exact HCL.out W)
  rw [← htl] at hRR
  obtain ⟨k, hk⟩ : ∃ k, k = schN t.data.toList := ⟨_, rfl⟩
  have HSC : Hid (∀ W, Calls Tryz.prog 41 #[.string t] W fun e w' => e = .returned (.int .i64 k) ∧ w' = W) := Lib.hid (fun W => by rw [hk]; exact rscheme_any t (by omega) W)
  have hkl : k ≤ t.size := by
    rw [hk]
    unfold schN
    split
    · rename_i hc
      obtain ⟨h1, _⟩ := List.getElem?_eq_some_iff.1 hc.2.2
      rw [size_data] at h1
      omega
    · omega
  have hsch := scheme_sch t.data.toList
  rw [← hk] at hsch
  obtain ⟨sl, hsl⟩ : ∃ sl, sl = lowL (t.data.toList.take k) := ⟨_, rfl⟩
  have HSLE := Lib.hid hsl
  obtain ⟨S, hS⟩ : ∃ S : ByteArray, S = ⟨sl.toArray⟩ := ⟨_, rfl⟩
  have hx0 : (t.extract 0 k).size ≤ 65536 := by rw [← size_data, ext_take, List.length_take, size_data]; omega
  have HLO : Hid (∀ W, Calls Tryz.prog 42 #[.string (t.extract 0 k)] W fun e w' => e = .returned (.string S) ∧ Below W.heap.size W w') := Lib.hid (fun W => by
    have h := ref_lower_any (t.extract 0 k) (by omega) W
    rw [ext_take, ← hsl, ← hS] at h
    exact h)
  have hSl : S.data.toList = sl := by rw [hS]
  have HSV : Hid (Value.string S = strL sl) := Lib.hid (by rw [hS]; rfl)
  have HDF := Lib.hid (fun W => rdef_any S W)
  rw [hSl] at HDF
  rw [← hsl] at hsch
  have hki : (k : Int) ≤ (t.size : Int) := by omega
  have hk0 : (0 : Int) ≤ (k : Int) := by omega
  have hbod : bodyP t.data.toList = (schemeP t.data.toList).bind fun s => (authP s.1 (upL authE s.2)).map fun a => tailP s.1 a (fromL authE s.2) := rfl
  clear ht htl hR hv hbig HCL hsl hS hSl hss hx0
  obtain ⟨D, hD⟩ : ∃ D, D = (defP sl).1 := ⟨_, rfl⟩
  cases hok : (defP sl).2
  · rw [hok, ← hD] at HDF
    have HRN : Hid (R = none) := Lib.hid (by rw [hRR, hbod, hsch, if_neg (by rw [hok]; decide)]; rfl)
    clear hD hok hsch hRR hbod hk
    go_enter Tryz.func46, Tryz.ntmps46
    go_wp2_with (first | (refine wpList_alloc_z rfl 31 rfl #[.string ⟨#[]⟩, .string ⟨#[]⟩, .string ⟨#[]⟩, .string ⟨#[]⟩, .int .i64 0, .string ⟨#[]⟩, .bool false, .string ⟨#[]⟩, .bool false, .string ⟨#[]⟩] hz ?_) | fail)
    refine (HU.out _).mono ?_
    rintro e w1 ⟨rfl, rfl⟩
    go_wp2_with fail
    refine (HCL2.out _).mono ?_
    rintro e w2 ⟨rfl, hb2⟩
    have HB2 := Lib.hid (below_then HB0.out hb2)
    have HZ2 := Lib.hid (Rw.below HR0.out hb2)
    clear hb2
    go_wp2_with fail
    refine (HSC.out _).mono ?_
    rintro e w3 ⟨rfl, rfl⟩
    go_wp2_with fail
    refine (HLO.out _).mono ?_
    rintro e w4 ⟨rfl, hb4⟩
    have HB3 := Lib.hid (below_more (below_then HB2.out hb4) (.cells #[.string S, .string ⟨#[]⟩, .string ⟨#[]⟩, .string ⟨#[]⟩, .int .i64 0, .string ⟨#[]⟩, .bool false, .string ⟨#[]⟩, .bool false, .string ⟨#[]⟩] 31))
    have HZ3 := Lib.hid (Rw.more (Rw.below HZ2.out hb4) (.cells #[.string S, .string ⟨#[]⟩, .string ⟨#[]⟩, .string ⟨#[]⟩, .int .i64 0, .string ⟨#[]⟩, .bool false, .string ⟨#[]⟩, .bool false, .string ⟨#[]⟩] 31))
    have HU3 : Hid (Rw (w4.alloc (.cells #[.string S, .string ⟨#[]⟩, .string ⟨#[]⟩, .string ⟨#[]⟩, .int .i64 0, .string ⟨#[]⟩, .bool false, .string ⟨#[]⟩, .bool false, .string ⟨#[]⟩] 31)) 0 w4.heap.size 31 [.string S, .string ⟨#[]⟩, .string ⟨#[]⟩, .string ⟨#[]⟩, .int .i64 0, .string ⟨#[]⟩, .bool false, .string ⟨#[]⟩, .bool false, .string ⟨#[]⟩]) := Lib.hid (Rw.alloc w4 _ _ (Nat.zero_le _))
    have HB4Z := Lib.hid hb4.size
    clear hb4
    have u0 := Rw.cell HU3.out (j := 0) rfl
    go_wp2_with fail
    refine (HDF.out _).mono ?_
    rintro e w5 ⟨rfl, rfl⟩
    go_wp2_with (first | (refine wpList_store_mid rfl 31 _ _ rfl w.heap.size 0 (urlCells urlZ).toArray rfl rfl (Rw.there HZ3.out 0 _ (by simp [urlCells])) Tryz.sizeUrl (url_one _) ?_) | fail)
    have HWZ := Rw.storedAll HZ3.out (urlCells urlZ) rfl
    refine bodyPost_ret (v := .tuple #[urlV urlZ, .int .i64 8]) ?_ rfl ?_
    case refine_2 => rw [HRN.out]; exact ⟨rfl, below_stores HB3.out (Nat.le_refl _) _⟩
    exact results_row_tmp rfl _ _ w.heap.size 0 31 (urlCells urlZ) _ rfl HWZ Tryz.underlying31 rfl Tryz.sizeUrl (.int .i64 8) rfl
  · rw [hok, ← hD] at HDF
    rw [hok, if_pos rfl] at hsch
    have hklt : k < t.size := by
      have h := sch_lt (l := t.data.toList) (by rw [← hk, ← HSLE.out]; exact hok)
      rw [← hk, size_data] at h
      exact h
    obtain ⟨x, hx⟩ : ∃ x : ByteArray, x = t.extract (k + 1) t.size := ⟨_, rfl⟩
    have hxl : x.data.toList = t.data.toList.drop (k + 1) := by rw [hx, ext_drop]
    have hxs : x.size ≤ 65536 := by rw [← size_data, hxl, List.length_drop, size_data]; omega
    have HXX : Hid (t.extract (k + 1) t.size = x) := Lib.hid hx.symm
    rw [← hxl] at hsch
    have hRR2 : R = (authP sl (upL authE (skipL x.data.toList))).map fun a => tailP sl a (fromL authE (skipL x.data.toList)) := by rw [hRR, hbod, hsch]; rfl
    have HRR := Lib.hid hRR2
    have hk1 : (k : Int) + 1 ≤ (t.size : Int) := by omega
    have hk2 : (0 : Int) ≤ (k : Int) + 1 := by omega
    clear hD hx hxl hsch hRR hRR2 hbod hok hk hklt
    go_enter Tryz.func46, Tryz.ntmps46
    go_wp2_with (first | (refine wpList_alloc_z rfl 31 rfl #[.string ⟨#[]⟩, .string ⟨#[]⟩, .string ⟨#[]⟩, .string ⟨#[]⟩, .int .i64 0, .string ⟨#[]⟩, .bool false, .string ⟨#[]⟩, .bool false, .string ⟨#[]⟩] hz ?_) | fail)
    refine (HU.out _).mono ?_
    rintro e w1 ⟨rfl, rfl⟩
    go_wp2_with fail
    refine (HCL2.out _).mono ?_
    rintro e w2 ⟨rfl, hb2⟩
    have HB2 := Lib.hid (below_then HB0.out hb2)
    have HZ2 := Lib.hid (Rw.below HR0.out hb2)
    clear hb2
    go_wp2_with fail
    refine (HSC.out _).mono ?_
    rintro e w3 ⟨rfl, rfl⟩
    go_wp2_with fail
    refine (HLO.out _).mono ?_
    rintro e w4 ⟨rfl, hb4⟩
    have HB3 := Lib.hid (below_more (below_then HB2.out hb4) (.cells #[.string S, .string ⟨#[]⟩, .string ⟨#[]⟩, .string ⟨#[]⟩, .int .i64 0, .string ⟨#[]⟩, .bool false, .string ⟨#[]⟩, .bool false, .string ⟨#[]⟩] 31))
    have HZ3 := Lib.hid (Rw.more (Rw.below HZ2.out hb4) (.cells #[.string S, .string ⟨#[]⟩, .string ⟨#[]⟩, .string ⟨#[]⟩, .int .i64 0, .string ⟨#[]⟩, .bool false, .string ⟨#[]⟩, .bool false, .string ⟨#[]⟩] 31))
    have HU3 : Hid (Rw (w4.alloc (.cells #[.string S, .string ⟨#[]⟩, .string ⟨#[]⟩, .string ⟨#[]⟩, .int .i64 0, .string ⟨#[]⟩, .bool false, .string ⟨#[]⟩, .bool false, .string ⟨#[]⟩] 31)) 0 w4.heap.size 31 [.string S, .string ⟨#[]⟩, .string ⟨#[]⟩, .string ⟨#[]⟩, .int .i64 0, .string ⟨#[]⟩, .bool false, .string ⟨#[]⟩, .bool false, .string ⟨#[]⟩]) := Lib.hid (Rw.alloc w4 _ _ (Nat.zero_le _))
    have HB4Z := Lib.hid hb4.size
    clear hb4
    have u0 := Rw.cell HU3.out (j := 0) rfl
    go_wp2_with fail
    refine (HDF.out _).mono ?_
    rintro e w5 ⟨rfl, rfl⟩
    have HROW : Hid (Rw (w4.alloc (.cells #[.string S, .string ⟨#[]⟩, .string ⟨#[]⟩, .string ⟨#[]⟩, .int .i64 0, .string ⟨#[]⟩, .bool false, .string ⟨#[]⟩, .bool false, .string ⟨#[]⟩] 31)) 0 w4.heap.size 31 (urlCells { urlZ with sch := sl })) := Lib.hid (by
      have e : urlCells { urlZ with sch := sl } = [.string S, .string ⟨#[]⟩, .string ⟨#[]⟩, .string ⟨#[]⟩, .int .i64 0, .string ⟨#[]⟩, .bool false, .string ⟨#[]⟩, .bool false, .string ⟨#[]⟩] := by rw [HSV.out]; rfl
      rw [e]
      exact HU3.out)
    have HB4S := HB4Z
    go_wp2_with fail
    rw [HXX.out]
    go_loop [0] (fun v => ∃ r : ByteArray, v = .string r ∧ r.size ≤ 65536 ∧ Hid (skipL r.data.toList = skipL x.data.toList)) (fun v => strSize v)
    case atStart => exact ⟨x, rfl, hxs, Lib.hid rfl⟩
    case round =>
      obtain ⟨r, rfl, hr, HRS⟩ := hrel
      by_cases hne : r.size = 0
      · have HF : Hid (r.data.toList = skipL x.data.toList) := Lib.hid (by rw [← HRS.out, nil_size hne]; rfl)
        have hr0 : ¬ (0 : Int) < (r.size : Int) := by omega
        clear hne
        obtain ⟨k2, hk2e⟩ : ∃ k2, k2 = (upL authE r.data.toList).length := ⟨_, rfl⟩
        obtain ⟨d1, d2⟩ := up_take authE r.data.toList
        rw [← hk2e] at d1 d2
        have hk2l : k2 ≤ r.size := by
          have := up_len authE r.data.toList
          rw [← hk2e, size_data] at this
          exact this
        have HUT : Hid (∀ W, Calls Tryz.prog 81 #[.string r, .string ⟨#[47, 92, 63, 35]⟩] W fun e w' => e = .returned (.int .i64 k2) ∧ w' = W) := Lib.hid (fun W => by rw [hk2e]; exact rupto_any r ⟨#[47, 92, 63, 35]⟩ (by omega) (by decide) W)
        have hk2i : (k2 : Int) ≤ (r.size : Int) := by omega
        have hk20 : (0 : Int) ≤ (k2 : Int) := by omega
        obtain ⟨AU, hAU⟩ : ∃ AU, AU = authP sl (upL authE r.data.toList) := ⟨_, rfl⟩
        have hax : (r.extract 0 k2).size ≤ 65536 := by rw [← size_data, ext_take, List.length_take, size_data]; omega
        have HAC : Hid (∀ (W : World) (g : Nat), Rw W 0 g 31 (urlCells { urlZ with sch := sl }) → Calls Tryz.prog 82 #[.pointer (some ⟨g, 0, none⟩), .string (r.extract 0 k2)] W fun e w' => RAutV W w' g { urlZ with sch := sl } e AU) := Lib.hid (fun W g h => by
          have hh := rauth_any (u := { urlZ with sch := sl }) rfl rfl (r.extract 0 k2) hax h
          rw [ext_take, d1] at hh
          rw [hAU]
          exact hh)
        have HRA : Hid (R = AU.map fun a => tailU sl a (fromL authE r.data.toList)) := Lib.hid (by
          rw [HRR.out, hAU, HF.out]
          congr 1
          funext a
          exact tail_tail _ _ _)
        obtain ⟨q, hq⟩ : ∃ q : ByteArray, q = r.extract k2 r.size := ⟨_, rfl⟩
        have hql : q.data.toList = fromL authE r.data.toList := by rw [hq, ext_drop, d2]
        have hqs : q.size ≤ 65536 := by rw [← size_data, hq, ext_drop, List.length_drop, size_data]; omega
        have HQX : Hid (r.extract k2 r.size = q) := Lib.hid hq.symm
        have HQH : Hid (q.data.toList = [] ∨ ∃ c r, q.data.toList = c :: r ∧ hasB authE c = true) := Lib.hid (by rw [hql]; exact from_head _ _)
        rw [← hql] at HRA
        clear hk2e d1 d2 hAU hax hq hql HF
        have HGW : Hid (w.heap.size < w4.heap.size) := Lib.hid (by have := Rw.size HZ2.out; have := HB4S.out; omega)
        cases AU with
        | none =>
          have HRN : Hid (R = none) := Lib.hid HRA.out
          go_wp2_with fail
          refine (HUT.out _).mono ?_
          rintro e w6 ⟨rfl, rfl⟩
          go_wp2_with fail
          refine (HAC.out _ _ HROW.out).mono ?_
          rintro e w7 ⟨rfl, hk7⟩
          have HZ7 := Lib.hid (rw_kept HZ3.out hk7 (by have := HGW.out; omega))
          have HB7 := Lib.hid (kept_g HB3.out (by have := HGW.out; omega) hk7)
          clear hk7
          go_wp2_with (first | (refine wpList_store_mid rfl 31 _ _ rfl w.heap.size 0 (urlCells urlZ).toArray rfl rfl (Rw.there HZ7.out 0 _ (by simp [urlCells])) Tryz.sizeUrl (url_one _) ?_) | fail)
          have HWZ := Rw.storedAll HZ7.out (urlCells urlZ) rfl
          refine bodyPost_ret (v := .tuple #[urlV urlZ, .int .i64 8]) ?_ rfl ?_
          case refine_2 => rw [HRN.out]; exact ⟨rfl, below_stores HB7.out (Nat.le_refl _) _⟩
          exact results_row_tmp rfl _ _ w.heap.size 0 31 (urlCells urlZ) _ rfl HWZ Tryz.underlying31 rfl Tryz.sizeUrl (.int .i64 8) rfl
        | some a =>
          have HRS2 : Hid (R = some (tailU sl a q.data.toList)) := Lib.hid HRA.out
          obtain ⟨k3, hk3⟩ : ∃ k3, k3 = (upL [35] q.data.toList).length := ⟨_, rfl⟩
          obtain ⟨d1, d2⟩ := up_take [35] q.data.toList
          rw [← hk3] at d1 d2
          have hk3l : k3 ≤ q.size := by
            have := up_len [35] q.data.toList
            rw [← hk3, size_data] at this
            exact this
          have HU3B : Hid (∀ W, Calls Tryz.prog 81 #[.string q, .string ⟨#[35]⟩] W fun e w' => e = .returned (.int .i64 k3) ∧ w' = W) := Lib.hid (fun W => by rw [hk3]; exact rupto_any q ⟨#[35]⟩ (by omega) (by decide) W)
          obtain ⟨y, hy⟩ : ∃ y : ByteArray, y = q.extract 0 k3 := ⟨_, rfl⟩
          have hyl : y.data.toList = upL [35] q.data.toList := by rw [hy, ext_take, d1]
          have hys : y.size ≤ 65536 := by rw [← size_data, hy, ext_take, List.length_take, size_data]; omega
          have HYX : Hid (q.extract 0 k3 = y) := Lib.hid hy.symm
          obtain ⟨k4, hk4⟩ : ∃ k4, k4 = (upL [63] y.data.toList).length := ⟨_, rfl⟩
          obtain ⟨g1, g2⟩ := up_take [63] y.data.toList
          rw [← hk4] at g1 g2
          have hk4l : k4 ≤ y.size := by
            have := up_len [63] y.data.toList
            rw [← hk4, size_data] at this
            exact this
          have HU4B : Hid (∀ W, Calls Tryz.prog 81 #[.string y, .string ⟨#[63]⟩] W fun e w' => e = .returned (.int .i64 k4) ∧ w' = W) := Lib.hid (fun W => by rw [hk4]; exact rupto_any y ⟨#[63]⟩ (by omega) (by decide) W)
          obtain ⟨P, hP⟩ : ∃ P : ByteArray, P = ⟨(pathP (upL [63] (upL [35] q.data.toList))).toArray⟩ := ⟨_, rfl⟩
          have hpx : (y.extract 0 k4).size ≤ 65536 := by rw [← size_data, ext_take, List.length_take, size_data]; omega
          have HPA : Hid (∀ W, Calls Tryz.prog 84 #[.string (y.extract 0 k4)] W fun e w' => e = .returned (.string P) ∧ Below W.heap.size W w') := Lib.hid (fun W => by
            have h := rpath_any (y.extract 0 k4) hpx (fun hn0 => by
              rw [ext_take, g1, hyl]
              refine path_head HQH.out ?_
              intro hh
              apply hn0
              rw [← size_data, ext_take, g1, hyl, hh]
              rfl) W
            rw [ext_take, g1, hyl] at h
            rw [hP]
            exact h)
          have HPV : Hid (Value.string P = strL (pathP (upL [63] (upL [35] q.data.toList)))) := Lib.hid (by rw [hP]; rfl)
          have hk3i : (k3 : Int) ≤ (q.size : Int) := by omega
          have hk30 : (0 : Int) ≤ (k3 : Int) := by omega
          have hk4i : (k4 : Int) ≤ (y.size : Int) := by omega
          have hk40 : (0 : Int) ≤ (k4 : Int) := by omega
          obtain ⟨FE, hFE⟩ : ∃ FE : ByteArray, FE = ⟨(encL 1 ((fromL [35] q.data.toList).drop 1)).toArray⟩ := ⟨_, rfl⟩
          have HFV : Hid (Value.string FE = strL (encL 1 ((fromL [35] q.data.toList).drop 1))) := Lib.hid (by rw [hFE]; rfl)
          obtain ⟨QE, hQE⟩ : ∃ QE : ByteArray, QE = ⟨(encL 2 ((fromL [63] (upL [35] q.data.toList)).drop 1)).toArray⟩ := ⟨_, rfl⟩
          have HQV : Hid (Value.string QE = strL (encL 2 ((fromL [63] (upL [35] q.data.toList)).drop 1))) := Lib.hid (by rw [hQE]; rfl)
          have HFC : Hid (k3 < q.size → ∀ W, Calls Tryz.prog 83 #[.string (q.extract (k3 + 1) q.size), .int .i64 1] W fun e w' => e = .returned (.string FE) ∧ Below W.heap.size W w') := Lib.hid (fun hlt W => by
            have hz : (q.extract (k3 + 1) q.size).size ≤ 65536 := by rw [← size_data, ext_drop, List.length_drop, size_data]; omega
            have h := ref_encode_any (q.extract (k3 + 1) q.size) (by omega) 1 W
            have e3 : q.data.toList.drop (k3 + 1) = (fromL [35] q.data.toList).drop 1 := by rw [← d2, List.drop_drop]
            rw [ext_drop, e3, ← hFE] at h
            exact h)
          have HQC : Hid (k4 < y.size → ∀ W, Calls Tryz.prog 83 #[.string (y.extract (k4 + 1) y.size), .int .i64 2] W fun e w' => e = .returned (.string QE) ∧ Below W.heap.size W w') := Lib.hid (fun hlt W => by
            have hz : (y.extract (k4 + 1) y.size).size ≤ 65536 := by rw [← size_data, ext_drop, List.length_drop, size_data]; omega
            have h := ref_encode_any (y.extract (k4 + 1) y.size) (by omega) 2 W
            have e3 : y.data.toList.drop (k4 + 1) = (fromL [63] (upL [35] q.data.toList)).drop 1 := by rw [← hyl, ← g2, List.drop_drop]
            rw [ext_drop, e3, ← hQE] at h
            exact h)
          have HF0 : Hid ((k3 < q.size → fromL [35] q.data.toList ≠ []) ∧ (¬ k3 < q.size → fromL [35] q.data.toList = [])) := Lib.hid (by
            rw [← d2]
            refine ⟨fun h hh => ?_, fun h => List.drop_of_length_le (by rw [size_data]; omega)⟩
            have := congrArg List.length hh
            rw [List.length_drop, size_data, List.length_nil] at this
            omega)
          have HQ0 : Hid ((k4 < y.size → fromL [63] (upL [35] q.data.toList) ≠ []) ∧ (¬ k4 < y.size → fromL [63] (upL [35] q.data.toList) = [])) := Lib.hid (by
            rw [← hyl, ← g2]
            refine ⟨fun h hh => ?_, fun h => List.drop_of_length_le (by rw [size_data]; omega)⟩
            have := congrArg List.length hh
            rw [List.length_drop, size_data, List.length_nil] at this
            omega)
          clear hk3 d1 d2 hy hyl hk4 g1 g2 hP hpx hFE hQE HQH
          go_wp2_with fail
          refine (HUT.out _).mono ?_
          rintro e w6 ⟨rfl, rfl⟩
          go_wp2_with fail
          refine (HAC.out _ _ HROW.out).mono ?_
          rintro e w7 ⟨rfl, hr7, hk7⟩
          have HZ7 := Lib.hid (rw_kept HZ3.out hk7 (by have := HGW.out; omega))
          have HB7 := Lib.hid (kept_g HB3.out (by have := HGW.out; omega) hk7)
          have HR7 := Lib.hid hr7
          clear hk7 hr7
          go_wp2_with fail
          rw [HQX.out]
          refine (HU3B.out _).mono ?_
          rintro e w8 ⟨rfl, rfl⟩
          have c8 := Rw.cell HR7.out (j := 8) rfl
          have f8 := Rw.free HR7.out 8
          by_cases hF : k3 < q.size
          · have hFi : (k3 : Int) < (q.size : Int) := by omega
            have hF1 : (k3 : Int) + 1 ≤ (q.size : Int) := by omega
            have hF2 : (0 : Int) ≤ (k3 : Int) + 1 := by omega
            have HFC2 := Lib.hid (HFC.out hF)
            have HF1 := Lib.hid (HF0.out.1 hF)
            clear HFC HF0 hF
            go_wp2_with fail
            refine (HFC2.out _).mono ?_
            rintro e w9 ⟨rfl, hb9⟩
            have HK9 := Lib.hid (kept_trans (kept_put (kept_refl (fun k => k = w4.heap.size) _) (.inl rfl) 8 (.bool true)) (kept_below hb9))
            have HR9 := Lib.hid (Rw.below (Rw.stored HR7.out 8 (.bool true)) hb9)
            clear hb9 c8 f8
            have c9 := Rw.cell HR9.out (j := 9) rfl
            have f9 := Rw.free HR9.out 9
            go_wp2_with fail
            rw [HYX.out]
            refine (HU4B.out _).mono ?_
            rintro e w10 ⟨rfl, rfl⟩
            have HKB := Lib.hid (kept_put HK9.out (.inl rfl) 9 (.string FE))
            have HRB := Lib.hid (Rw.stored HR9.out 9 (.string FE))
            clear c9 f9
            have c6 := Rw.cell HRB.out (j := 6) rfl
            have f6 := Rw.free HRB.out 6
            by_cases hQ : k4 < y.size
            · have hQi : (k4 : Int) < (y.size : Int) := by omega
              have hQ1 : (k4 : Int) + 1 ≤ (y.size : Int) := by omega
              have hQ2 : (0 : Int) ≤ (k4 : Int) + 1 := by omega
              have HQC2 := Lib.hid (HQC.out hQ)
              have HQ1 := Lib.hid (HQ0.out.1 hQ)
              clear HQC HQ0 hQ
              go_wp2_with fail
              refine (HQC2.out _).mono ?_
              rintro e w11 ⟨rfl, hb11⟩
              have HKC := Lib.hid (kept_trans (kept_put HKB.out (.inl rfl) 6 (.bool true)) (kept_below hb11))
              have HRC := Lib.hid (Rw.below (Rw.stored HRB.out 6 (.bool true)) hb11)
              clear hb11 c6 f6
              have c7 := Rw.cell HRC.out (j := 7) rfl
              have f7 := Rw.free HRC.out 7
              go_wp2_with fail
              refine (HPA.out _).mono ?_
              rintro e w12 ⟨rfl, hb12⟩
              have HKD := Lib.hid (kept_trans (kept_put HKC.out (.inl rfl) 7 (.string QE)) (kept_below hb12))
              have HRD := Lib.hid (Rw.below (Rw.stored HRC.out 7 (.string QE)) hb12)
              clear hb12 c7 f7
              have HRE := Lib.hid (Rw.stored HRD.out 5 (.string P))
              have HKE := Lib.hid (kept_put HKD.out (.inl rfl) 5 (.string P))
              have HZE := Lib.hid (rw_kept HZ7.out HKE.out (by have := HGW.out; omega))
              have HBE := Lib.hid (kept_g HB7.out (by have := HGW.out; omega) HKE.out)
              obtain ⟨z, hzz⟩ : ∃ z, z = tailU sl a q.data.toList := ⟨_, rfl⟩
              have HRZ : Hid (R = some z) := Lib.hid (by rw [hzz]; exact HRS2.out)
              have hce : urlCells z = [strL sl, strL a.usr, strL a.pas, strL a.hos, .int .i64 a.prt, .string P, .bool true, .string QE, .bool true, .string FE] := by
                rw [hzz]
                show [strL sl, strL a.usr, strL a.pas, strL a.hos, .int .i64 a.prt, strL (pathP (upL [63] (upL [35] q.data.toList))), .bool (decide (fromL [63] (upL [35] q.data.toList) ≠ [])), strL (encL 2 ((fromL [63] (upL [35] q.data.toList)).drop 1)), .bool (decide (fromL [35] q.data.toList ≠ [])), strL (encL 1 ((fromL [35] q.data.toList).drop 1))] = _
                rw [← HPV.out, ← HQV.out, decide_eq_true HQ1.out, ← HFV.out, decide_eq_true HF1.out]
                try rfl
              have HRW2 : Hid (Rw (w12.setCell ⟨w4.heap.size, 5, none⟩ (.string P)) 0 w4.heap.size 31 (urlCells z)) := Lib.hid (by rw [hce]; exact HRE.out)
              have HRG : Hid ((w12.setCell ⟨w4.heap.size, 5, none⟩ (.string P)).rangeAt w4.heap.size 0 (urlCells z)) := Lib.hid (Rw.range HRW2.out 0 (urlCells z) (fun j v hj => by rw [Nat.zero_add]; exact hj))
              have c5 := Rw.cell HRD.out (j := 5) rfl
              have f5 := Rw.free HRD.out 5
              clear hce hzz HRE HRD HKD HRB HKB
              go_wp2_with (first | (refine wpList_load_mid rfl 31 _ rfl w4.heap.size 0 rfl (urlCells z) _ HRG.out Tryz.underlying31 rfl Tryz.sizeUrl ?_) | (refine wpList_store_mid rfl 31 _ _ rfl w.heap.size 0 (urlCells z).toArray rfl rfl (Rw.there HZE.out 0 _ (by simp [urlCells])) Tryz.sizeUrl (url_one _) ?_) | fail)
              have HEND := Lib.hid (Rw.storedAll HZE.out (urlCells z) rfl)
              refine bodyPost_ret (v := .tuple #[urlV z, .int .i64 0]) ?_ rfl ?_
              case refine_2 => rw [HRZ.out]; exact ⟨rfl, below_stores HBE.out (Nat.le_refl _) _⟩
              exact results_row_tmp rfl _ _ w.heap.size 0 31 (urlCells z) _ rfl HEND.out Tryz.underlying31 rfl Tryz.sizeUrl (.int .i64 0) rfl
            · have hQi : ¬ (k4 : Int) < (y.size : Int) := by omega
              have HQ1 := Lib.hid (HQ0.out.2 hQ)
              clear HQC HQ0 hQ
              go_wp2_with fail
              refine (HPA.out _).mono ?_
              rintro e w12 ⟨rfl, hb12⟩
              have HKD := Lib.hid (kept_trans HKB.out (kept_below hb12))
              have HRD := Lib.hid (Rw.below HRB.out hb12)
              clear hb12 c6 f6
              have HRE := Lib.hid (Rw.stored HRD.out 5 (.string P))
              have HKE := Lib.hid (kept_put HKD.out (.inl rfl) 5 (.string P))
              have HZE := Lib.hid (rw_kept HZ7.out HKE.out (by have := HGW.out; omega))
              have HBE := Lib.hid (kept_g HB7.out (by have := HGW.out; omega) HKE.out)
              obtain ⟨z, hzz⟩ : ∃ z, z = tailU sl a q.data.toList := ⟨_, rfl⟩
              have HRZ : Hid (R = some z) := Lib.hid (by rw [hzz]; exact HRS2.out)
              have hce : urlCells z = [strL sl, strL a.usr, strL a.pas, strL a.hos, .int .i64 a.prt, .string P, .bool false, strL [], .bool true, .string FE] := by
                rw [hzz]
                show [strL sl, strL a.usr, strL a.pas, strL a.hos, .int .i64 a.prt, strL (pathP (upL [63] (upL [35] q.data.toList))), .bool (decide (fromL [63] (upL [35] q.data.toList) ≠ [])), strL (encL 2 ((fromL [63] (upL [35] q.data.toList)).drop 1)), .bool (decide (fromL [35] q.data.toList ≠ [])), strL (encL 1 ((fromL [35] q.data.toList).drop 1))] = _
                rw [← HPV.out, HQ1.out, ← HFV.out, decide_eq_true HF1.out]
                try rfl
              have HRW2 : Hid (Rw (w12.setCell ⟨w4.heap.size, 5, none⟩ (.string P)) 0 w4.heap.size 31 (urlCells z)) := Lib.hid (by rw [hce]; exact HRE.out)
              have HRG : Hid ((w12.setCell ⟨w4.heap.size, 5, none⟩ (.string P)).rangeAt w4.heap.size 0 (urlCells z)) := Lib.hid (Rw.range HRW2.out 0 (urlCells z) (fun j v hj => by rw [Nat.zero_add]; exact hj))
              have c5 := Rw.cell HRD.out (j := 5) rfl
              have f5 := Rw.free HRD.out 5
              clear hce hzz HRE HRD HKD HRB HKB
              go_wp2_with (first | (refine wpList_load_mid rfl 31 _ rfl w4.heap.size 0 rfl (urlCells z) _ HRG.out Tryz.underlying31 rfl Tryz.sizeUrl ?_) | (refine wpList_store_mid rfl 31 _ _ rfl w.heap.size 0 (urlCells z).toArray rfl rfl (Rw.there HZE.out 0 _ (by simp [urlCells])) Tryz.sizeUrl (url_one _) ?_) | fail)
              have HEND := Lib.hid (Rw.storedAll HZE.out (urlCells z) rfl)
              refine bodyPost_ret (v := .tuple #[urlV z, .int .i64 0]) ?_ rfl ?_
              case refine_2 => rw [HRZ.out]; exact ⟨rfl, below_stores HBE.out (Nat.le_refl _) _⟩
              exact results_row_tmp rfl _ _ w.heap.size 0 31 (urlCells z) _ rfl HEND.out Tryz.underlying31 rfl Tryz.sizeUrl (.int .i64 0) rfl
          · have hFi : ¬ (k3 : Int) < (q.size : Int) := by omega
            have HF1 := Lib.hid (HF0.out.2 hF)
            clear HFC HF0 hF
            go_wp2_with fail
            rw [HYX.out]
            refine (HU4B.out _).mono ?_
            rintro e w10 ⟨rfl, rfl⟩
            have HKB := Lib.hid (kept_refl (fun k => k = w4.heap.size) w10)
            have HRB := Lib.hid HR7.out
            clear c8 f8
            have c6 := Rw.cell HRB.out (j := 6) rfl
            have f6 := Rw.free HRB.out 6
            by_cases hQ : k4 < y.size
            · have hQi : (k4 : Int) < (y.size : Int) := by omega
              have hQ1 : (k4 : Int) + 1 ≤ (y.size : Int) := by omega
              have hQ2 : (0 : Int) ≤ (k4 : Int) + 1 := by omega
              have HQC2 := Lib.hid (HQC.out hQ)
              have HQ1 := Lib.hid (HQ0.out.1 hQ)
              clear HQC HQ0 hQ
              go_wp2_with fail
              refine (HQC2.out _).mono ?_
              rintro e w11 ⟨rfl, hb11⟩
              have HKC := Lib.hid (kept_trans (kept_put HKB.out (.inl rfl) 6 (.bool true)) (kept_below hb11))
              have HRC := Lib.hid (Rw.below (Rw.stored HRB.out 6 (.bool true)) hb11)
              clear hb11 c6 f6
              have c7 := Rw.cell HRC.out (j := 7) rfl
              have f7 := Rw.free HRC.out 7
              go_wp2_with fail
              refine (HPA.out _).mono ?_
              rintro e w12 ⟨rfl, hb12⟩
              have HKD := Lib.hid (kept_trans (kept_put HKC.out (.inl rfl) 7 (.string QE)) (kept_below hb12))
              have HRD := Lib.hid (Rw.below (Rw.stored HRC.out 7 (.string QE)) hb12)
              clear hb12 c7 f7
              have HRE := Lib.hid (Rw.stored HRD.out 5 (.string P))
              have HKE := Lib.hid (kept_put HKD.out (.inl rfl) 5 (.string P))
              have HZE := Lib.hid (rw_kept HZ7.out HKE.out (by have := HGW.out; omega))
              have HBE := Lib.hid (kept_g HB7.out (by have := HGW.out; omega) HKE.out)
              obtain ⟨z, hzz⟩ : ∃ z, z = tailU sl a q.data.toList := ⟨_, rfl⟩
              have HRZ : Hid (R = some z) := Lib.hid (by rw [hzz]; exact HRS2.out)
              have hce : urlCells z = [strL sl, strL a.usr, strL a.pas, strL a.hos, .int .i64 a.prt, .string P, .bool true, .string QE, .bool false, strL []] := by
                rw [hzz]
                show [strL sl, strL a.usr, strL a.pas, strL a.hos, .int .i64 a.prt, strL (pathP (upL [63] (upL [35] q.data.toList))), .bool (decide (fromL [63] (upL [35] q.data.toList) ≠ [])), strL (encL 2 ((fromL [63] (upL [35] q.data.toList)).drop 1)), .bool (decide (fromL [35] q.data.toList ≠ [])), strL (encL 1 ((fromL [35] q.data.toList).drop 1))] = _
                rw [← HPV.out, ← HQV.out, decide_eq_true HQ1.out, HF1.out]
                try rfl
              have HRW2 : Hid (Rw (w12.setCell ⟨w4.heap.size, 5, none⟩ (.string P)) 0 w4.heap.size 31 (urlCells z)) := Lib.hid (by rw [hce]; exact HRE.out)
              have HRG : Hid ((w12.setCell ⟨w4.heap.size, 5, none⟩ (.string P)).rangeAt w4.heap.size 0 (urlCells z)) := Lib.hid (Rw.range HRW2.out 0 (urlCells z) (fun j v hj => by rw [Nat.zero_add]; exact hj))
              have c5 := Rw.cell HRD.out (j := 5) rfl
              have f5 := Rw.free HRD.out 5
              clear hce hzz HRE HRD HKD HRB HKB
              go_wp2_with (first | (refine wpList_load_mid rfl 31 _ rfl w4.heap.size 0 rfl (urlCells z) _ HRG.out Tryz.underlying31 rfl Tryz.sizeUrl ?_) | (refine wpList_store_mid rfl 31 _ _ rfl w.heap.size 0 (urlCells z).toArray rfl rfl (Rw.there HZE.out 0 _ (by simp [urlCells])) Tryz.sizeUrl (url_one _) ?_) | fail)
              have HEND := Lib.hid (Rw.storedAll HZE.out (urlCells z) rfl)
              refine bodyPost_ret (v := .tuple #[urlV z, .int .i64 0]) ?_ rfl ?_
              case refine_2 => rw [HRZ.out]; exact ⟨rfl, below_stores HBE.out (Nat.le_refl _) _⟩
              exact results_row_tmp rfl _ _ w.heap.size 0 31 (urlCells z) _ rfl HEND.out Tryz.underlying31 rfl Tryz.sizeUrl (.int .i64 0) rfl
            · have hQi : ¬ (k4 : Int) < (y.size : Int) := by omega
              have HQ1 := Lib.hid (HQ0.out.2 hQ)
              clear HQC HQ0 hQ
              go_wp2_with fail
              refine (HPA.out _).mono ?_
              rintro e w12 ⟨rfl, hb12⟩
              have HKD := Lib.hid (kept_trans HKB.out (kept_below hb12))
              have HRD := Lib.hid (Rw.below HRB.out hb12)
              clear hb12 c6 f6
              have HRE := Lib.hid (Rw.stored HRD.out 5 (.string P))
              have HKE := Lib.hid (kept_put HKD.out (.inl rfl) 5 (.string P))
              have HZE := Lib.hid (rw_kept HZ7.out HKE.out (by have := HGW.out; omega))
              have HBE := Lib.hid (kept_g HB7.out (by have := HGW.out; omega) HKE.out)
              obtain ⟨z, hzz⟩ : ∃ z, z = tailU sl a q.data.toList := ⟨_, rfl⟩
              have HRZ : Hid (R = some z) := Lib.hid (by rw [hzz]; exact HRS2.out)
              have hce : urlCells z = [strL sl, strL a.usr, strL a.pas, strL a.hos, .int .i64 a.prt, .string P, .bool false, strL [], .bool false, strL []] := by
                rw [hzz]
                show [strL sl, strL a.usr, strL a.pas, strL a.hos, .int .i64 a.prt, strL (pathP (upL [63] (upL [35] q.data.toList))), .bool (decide (fromL [63] (upL [35] q.data.toList) ≠ [])), strL (encL 2 ((fromL [63] (upL [35] q.data.toList)).drop 1)), .bool (decide (fromL [35] q.data.toList ≠ [])), strL (encL 1 ((fromL [35] q.data.toList).drop 1))] = _
                rw [← HPV.out, HQ1.out, HF1.out]
                try rfl
              have HRW2 : Hid (Rw (w12.setCell ⟨w4.heap.size, 5, none⟩ (.string P)) 0 w4.heap.size 31 (urlCells z)) := Lib.hid (by rw [hce]; exact HRE.out)
              have HRG : Hid ((w12.setCell ⟨w4.heap.size, 5, none⟩ (.string P)).rangeAt w4.heap.size 0 (urlCells z)) := Lib.hid (Rw.range HRW2.out 0 (urlCells z) (fun j v hj => by rw [Nat.zero_add]; exact hj))
              have c5 := Rw.cell HRD.out (j := 5) rfl
              have f5 := Rw.free HRD.out 5
              clear hce hzz HRE HRD HKD HRB HKB
              go_wp2_with (first | (refine wpList_load_mid rfl 31 _ rfl w4.heap.size 0 rfl (urlCells z) _ HRG.out Tryz.underlying31 rfl Tryz.sizeUrl ?_) | (refine wpList_store_mid rfl 31 _ _ rfl w.heap.size 0 (urlCells z).toArray rfl rfl (Rw.there HZE.out 0 _ (by simp [urlCells])) Tryz.sizeUrl (url_one _) ?_) | fail)
              have HEND := Lib.hid (Rw.storedAll HZE.out (urlCells z) rfl)
              refine bodyPost_ret (v := .tuple #[urlV z, .int .i64 0]) ?_ rfl ?_
              case refine_2 => rw [HRZ.out]; exact ⟨rfl, below_stores HBE.out (Nat.le_refl _) _⟩
              exact results_row_tmp rfl _ _ w.heap.size 0 31 (urlCells z) _ rfl HEND.out Tryz.underlying31 rfl Tryz.sizeUrl (.int .i64 0) rfl
      · have h0 : 0 < r.size := by omega
        have ri0 : (0 : Int) < (r.size : Int) := by omega
        rcases skip_ways r[0] with ⟨hsp, hw⟩ | ⟨hsp, h47, h92⟩
        · have HN := Lib.hid (skip_yes r h0 hsp)
          clear hsp
          rcases hw with h47 | ⟨h47, h92⟩
          all_goals
            go_wp2_with fail
            go_round
            case rel => exact ⟨_, rfl, by simp; omega, Lib.hid (HN.out.trans HRS.out)⟩
            case measure => first | (simp [strSize]; done) | (simp [strSize]; omega)
        · have HF : Hid (r.data.toList = skipL x.data.toList) := Lib.hid (by rw [← HRS.out, skip_no r h0 hsp])
          clear hsp
          obtain ⟨k2, hk2e⟩ : ∃ k2, k2 = (upL authE r.data.toList).length := ⟨_, rfl⟩
          obtain ⟨d1, d2⟩ := up_take authE r.data.toList
          rw [← hk2e] at d1 d2
          have hk2l : k2 ≤ r.size := by
            have := up_len authE r.data.toList
            rw [← hk2e, size_data] at this
            exact this
          have HUT : Hid (∀ W, Calls Tryz.prog 81 #[.string r, .string ⟨#[47, 92, 63, 35]⟩] W fun e w' => e = .returned (.int .i64 k2) ∧ w' = W) := Lib.hid (fun W => by rw [hk2e]; exact rupto_any r ⟨#[47, 92, 63, 35]⟩ (by omega) (by decide) W)
          have hk2i : (k2 : Int) ≤ (r.size : Int) := by omega
          have hk20 : (0 : Int) ≤ (k2 : Int) := by omega
          obtain ⟨AU, hAU⟩ : ∃ AU, AU = authP sl (upL authE r.data.toList) := ⟨_, rfl⟩
          have hax : (r.extract 0 k2).size ≤ 65536 := by rw [← size_data, ext_take, List.length_take, size_data]; omega
          have HAC : Hid (∀ (W : World) (g : Nat), Rw W 0 g 31 (urlCells { urlZ with sch := sl }) → Calls Tryz.prog 82 #[.pointer (some ⟨g, 0, none⟩), .string (r.extract 0 k2)] W fun e w' => RAutV W w' g { urlZ with sch := sl } e AU) := Lib.hid (fun W g h => by
            have hh := rauth_any (u := { urlZ with sch := sl }) rfl rfl (r.extract 0 k2) hax h
            rw [ext_take, d1] at hh
            rw [hAU]
            exact hh)
          have HRA : Hid (R = AU.map fun a => tailU sl a (fromL authE r.data.toList)) := Lib.hid (by
            rw [HRR.out, hAU, HF.out]
            congr 1
            funext a
            exact tail_tail _ _ _)
          obtain ⟨q, hq⟩ : ∃ q : ByteArray, q = r.extract k2 r.size := ⟨_, rfl⟩
          have hql : q.data.toList = fromL authE r.data.toList := by rw [hq, ext_drop, d2]
          have hqs : q.size ≤ 65536 := by rw [← size_data, hq, ext_drop, List.length_drop, size_data]; omega
          have HQX : Hid (r.extract k2 r.size = q) := Lib.hid hq.symm
          have HQH : Hid (q.data.toList = [] ∨ ∃ c r, q.data.toList = c :: r ∧ hasB authE c = true) := Lib.hid (by rw [hql]; exact from_head _ _)
          rw [← hql] at HRA
          clear hk2e d1 d2 hAU hax hq hql HF
          have HGW : Hid (w.heap.size < w4.heap.size) := Lib.hid (by have := Rw.size HZ2.out; have := HB4S.out; omega)
          cases AU with
          | none =>
            have HRN : Hid (R = none) := Lib.hid HRA.out
            go_wp2_with fail
            refine (HUT.out _).mono ?_
            rintro e w6 ⟨rfl, rfl⟩
            go_wp2_with fail
            refine (HAC.out _ _ HROW.out).mono ?_
            rintro e w7 ⟨rfl, hk7⟩
            have HZ7 := Lib.hid (rw_kept HZ3.out hk7 (by have := HGW.out; omega))
            have HB7 := Lib.hid (kept_g HB3.out (by have := HGW.out; omega) hk7)
            clear hk7
            go_wp2_with (first | (refine wpList_store_mid rfl 31 _ _ rfl w.heap.size 0 (urlCells urlZ).toArray rfl rfl (Rw.there HZ7.out 0 _ (by simp [urlCells])) Tryz.sizeUrl (url_one _) ?_) | fail)
            have HWZ := Rw.storedAll HZ7.out (urlCells urlZ) rfl
            refine bodyPost_ret (v := .tuple #[urlV urlZ, .int .i64 8]) ?_ rfl ?_
            case refine_2 => rw [HRN.out]; exact ⟨rfl, below_stores HB7.out (Nat.le_refl _) _⟩
            exact results_row_tmp rfl _ _ w.heap.size 0 31 (urlCells urlZ) _ rfl HWZ Tryz.underlying31 rfl Tryz.sizeUrl (.int .i64 8) rfl
          | some a =>
            have HRS2 : Hid (R = some (tailU sl a q.data.toList)) := Lib.hid HRA.out
            obtain ⟨k3, hk3⟩ : ∃ k3, k3 = (upL [35] q.data.toList).length := ⟨_, rfl⟩
            obtain ⟨d1, d2⟩ := up_take [35] q.data.toList
            rw [← hk3] at d1 d2
            have hk3l : k3 ≤ q.size := by
              have := up_len [35] q.data.toList
              rw [← hk3, size_data] at this
              exact this
            have HU3B : Hid (∀ W, Calls Tryz.prog 81 #[.string q, .string ⟨#[35]⟩] W fun e w' => e = .returned (.int .i64 k3) ∧ w' = W) := Lib.hid (fun W => by rw [hk3]; exact rupto_any q ⟨#[35]⟩ (by omega) (by decide) W)
            obtain ⟨y, hy⟩ : ∃ y : ByteArray, y = q.extract 0 k3 := ⟨_, rfl⟩
            have hyl : y.data.toList = upL [35] q.data.toList := by rw [hy, ext_take, d1]
            have hys : y.size ≤ 65536 := by rw [← size_data, hy, ext_take, List.length_take, size_data]; omega
            have HYX : Hid (q.extract 0 k3 = y) := Lib.hid hy.symm
            obtain ⟨k4, hk4⟩ : ∃ k4, k4 = (upL [63] y.data.toList).length := ⟨_, rfl⟩
            obtain ⟨g1, g2⟩ := up_take [63] y.data.toList
            rw [← hk4] at g1 g2
            have hk4l : k4 ≤ y.size := by
              have := up_len [63] y.data.toList
              rw [← hk4, size_data] at this
              exact this
            have HU4B : Hid (∀ W, Calls Tryz.prog 81 #[.string y, .string ⟨#[63]⟩] W fun e w' => e = .returned (.int .i64 k4) ∧ w' = W) := Lib.hid (fun W => by rw [hk4]; exact rupto_any y ⟨#[63]⟩ (by omega) (by decide) W)
            obtain ⟨P, hP⟩ : ∃ P : ByteArray, P = ⟨(pathP (upL [63] (upL [35] q.data.toList))).toArray⟩ := ⟨_, rfl⟩
            have hpx : (y.extract 0 k4).size ≤ 65536 := by rw [← size_data, ext_take, List.length_take, size_data]; omega
            have HPA : Hid (∀ W, Calls Tryz.prog 84 #[.string (y.extract 0 k4)] W fun e w' => e = .returned (.string P) ∧ Below W.heap.size W w') := Lib.hid (fun W => by
              have h := rpath_any (y.extract 0 k4) hpx (fun hn0 => by
                rw [ext_take, g1, hyl]
                refine path_head HQH.out ?_
                intro hh
                apply hn0
                rw [← size_data, ext_take, g1, hyl, hh]
                rfl) W
              rw [ext_take, g1, hyl] at h
              rw [hP]
              exact h)
            have HPV : Hid (Value.string P = strL (pathP (upL [63] (upL [35] q.data.toList)))) := Lib.hid (by rw [hP]; rfl)
            have hk3i : (k3 : Int) ≤ (q.size : Int) := by omega
            have hk30 : (0 : Int) ≤ (k3 : Int) := by omega
            have hk4i : (k4 : Int) ≤ (y.size : Int) := by omega
            have hk40 : (0 : Int) ≤ (k4 : Int) := by omega
            obtain ⟨FE, hFE⟩ : ∃ FE : ByteArray, FE = ⟨(encL 1 ((fromL [35] q.data.toList).drop 1)).toArray⟩ := ⟨_, rfl⟩
            have HFV : Hid (Value.string FE = strL (encL 1 ((fromL [35] q.data.toList).drop 1))) := Lib.hid (by rw [hFE]; rfl)
            obtain ⟨QE, hQE⟩ : ∃ QE : ByteArray, QE = ⟨(encL 2 ((fromL [63] (upL [35] q.data.toList)).drop 1)).toArray⟩ := ⟨_, rfl⟩
            have HQV : Hid (Value.string QE = strL (encL 2 ((fromL [63] (upL [35] q.data.toList)).drop 1))) := Lib.hid (by rw [hQE]; rfl)
            have HFC : Hid (k3 < q.size → ∀ W, Calls Tryz.prog 83 #[.string (q.extract (k3 + 1) q.size), .int .i64 1] W fun e w' => e = .returned (.string FE) ∧ Below W.heap.size W w') := Lib.hid (fun hlt W => by
              have hz : (q.extract (k3 + 1) q.size).size ≤ 65536 := by rw [← size_data, ext_drop, List.length_drop, size_data]; omega
              have h := ref_encode_any (q.extract (k3 + 1) q.size) (by omega) 1 W
              have e3 : q.data.toList.drop (k3 + 1) = (fromL [35] q.data.toList).drop 1 := by rw [← d2, List.drop_drop]
              rw [ext_drop, e3, ← hFE] at h
              exact h)
            have HQC : Hid (k4 < y.size → ∀ W, Calls Tryz.prog 83 #[.string (y.extract (k4 + 1) y.size), .int .i64 2] W fun e w' => e = .returned (.string QE) ∧ Below W.heap.size W w') := Lib.hid (fun hlt W => by
              have hz : (y.extract (k4 + 1) y.size).size ≤ 65536 := by rw [← size_data, ext_drop, List.length_drop, size_data]; omega
              have h := ref_encode_any (y.extract (k4 + 1) y.size) (by omega) 2 W
              have e3 : y.data.toList.drop (k4 + 1) = (fromL [63] (upL [35] q.data.toList)).drop 1 := by rw [← hyl, ← g2, List.drop_drop]
              rw [ext_drop, e3, ← hQE] at h
              exact h)
            have HF0 : Hid ((k3 < q.size → fromL [35] q.data.toList ≠ []) ∧ (¬ k3 < q.size → fromL [35] q.data.toList = [])) := Lib.hid (by
              rw [← d2]
              refine ⟨fun h hh => ?_, fun h => List.drop_of_length_le (by rw [size_data]; omega)⟩
              have := congrArg List.length hh
              rw [List.length_drop, size_data, List.length_nil] at this
              omega)
            have HQ0 : Hid ((k4 < y.size → fromL [63] (upL [35] q.data.toList) ≠ []) ∧ (¬ k4 < y.size → fromL [63] (upL [35] q.data.toList) = [])) := Lib.hid (by
              rw [← hyl, ← g2]
              refine ⟨fun h hh => ?_, fun h => List.drop_of_length_le (by rw [size_data]; omega)⟩
              have := congrArg List.length hh
              rw [List.length_drop, size_data, List.length_nil] at this
              omega)
            clear hk3 d1 d2 hy hyl hk4 g1 g2 hP hpx hFE hQE HQH
            go_wp2_with fail
            refine (HUT.out _).mono ?_
            rintro e w6 ⟨rfl, rfl⟩
            go_wp2_with fail
            refine (HAC.out _ _ HROW.out).mono ?_
            rintro e w7 ⟨rfl, hr7, hk7⟩
            have HZ7 := Lib.hid (rw_kept HZ3.out hk7 (by have := HGW.out; omega))
            have HB7 := Lib.hid (kept_g HB3.out (by have := HGW.out; omega) hk7)
            have HR7 := Lib.hid hr7
            clear hk7 hr7
            go_wp2_with fail
            rw [HQX.out]
            refine (HU3B.out _).mono ?_
            rintro e w8 ⟨rfl, rfl⟩
            have c8 := Rw.cell HR7.out (j := 8) rfl
            have f8 := Rw.free HR7.out 8
            by_cases hF : k3 < q.size
            · have hFi : (k3 : Int) < (q.size : Int) := by omega
              have hF1 : (k3 : Int) + 1 ≤ (q.size : Int) := by omega
              have hF2 : (0 : Int) ≤ (k3 : Int) + 1 := by omega
              have HFC2 := Lib.hid (HFC.out hF)
              have HF1 := Lib.hid (HF0.out.1 hF)
              clear HFC HF0 hF
              go_wp2_with fail
              refine (HFC2.out _).mono ?_
              rintro e w9 ⟨rfl, hb9⟩
              have HK9 := Lib.hid (kept_trans (kept_put (kept_refl (fun k => k = w4.heap.size) _) (.inl rfl) 8 (.bool true)) (kept_below hb9))
              have HR9 := Lib.hid (Rw.below (Rw.stored HR7.out 8 (.bool true)) hb9)
              clear hb9 c8 f8
              have c9 := Rw.cell HR9.out (j := 9) rfl
              have f9 := Rw.free HR9.out 9
              go_wp2_with fail
              rw [HYX.out]
              refine (HU4B.out _).mono ?_
              rintro e w10 ⟨rfl, rfl⟩
              have HKB := Lib.hid (kept_put HK9.out (.inl rfl) 9 (.string FE))
              have HRB := Lib.hid (Rw.stored HR9.out 9 (.string FE))
              clear c9 f9
              have c6 := Rw.cell HRB.out (j := 6) rfl
              have f6 := Rw.free HRB.out 6
              by_cases hQ : k4 < y.size
              · have hQi : (k4 : Int) < (y.size : Int) := by omega
                have hQ1 : (k4 : Int) + 1 ≤ (y.size : Int) := by omega
                have hQ2 : (0 : Int) ≤ (k4 : Int) + 1 := by omega
                have HQC2 := Lib.hid (HQC.out hQ)
                have HQ1 := Lib.hid (HQ0.out.1 hQ)
                clear HQC HQ0 hQ
                go_wp2_with fail
                refine (HQC2.out _).mono ?_
                rintro e w11 ⟨rfl, hb11⟩
                have HKC := Lib.hid (kept_trans (kept_put HKB.out (.inl rfl) 6 (.bool true)) (kept_below hb11))
                have HRC := Lib.hid (Rw.below (Rw.stored HRB.out 6 (.bool true)) hb11)
                clear hb11 c6 f6
                have c7 := Rw.cell HRC.out (j := 7) rfl
                have f7 := Rw.free HRC.out 7
                go_wp2_with fail
                refine (HPA.out _).mono ?_
                rintro e w12 ⟨rfl, hb12⟩
                have HKD := Lib.hid (kept_trans (kept_put HKC.out (.inl rfl) 7 (.string QE)) (kept_below hb12))
                have HRD := Lib.hid (Rw.below (Rw.stored HRC.out 7 (.string QE)) hb12)
                clear hb12 c7 f7
                have HRE := Lib.hid (Rw.stored HRD.out 5 (.string P))
                have HKE := Lib.hid (kept_put HKD.out (.inl rfl) 5 (.string P))
                have HZE := Lib.hid (rw_kept HZ7.out HKE.out (by have := HGW.out; omega))
                have HBE := Lib.hid (kept_g HB7.out (by have := HGW.out; omega) HKE.out)
                obtain ⟨z, hzz⟩ : ∃ z, z = tailU sl a q.data.toList := ⟨_, rfl⟩
                have HRZ : Hid (R = some z) := Lib.hid (by rw [hzz]; exact HRS2.out)
                have hce : urlCells z = [strL sl, strL a.usr, strL a.pas, strL a.hos, .int .i64 a.prt, .string P, .bool true, .string QE, .bool true, .string FE] := by
                  rw [hzz]
                  show [strL sl, strL a.usr, strL a.pas, strL a.hos, .int .i64 a.prt, strL (pathP (upL [63] (upL [35] q.data.toList))), .bool (decide (fromL [63] (upL [35] q.data.toList) ≠ [])), strL (encL 2 ((fromL [63] (upL [35] q.data.toList)).drop 1)), .bool (decide (fromL [35] q.data.toList ≠ [])), strL (encL 1 ((fromL [35] q.data.toList).drop 1))] = _
                  rw [← HPV.out, ← HQV.out, decide_eq_true HQ1.out, ← HFV.out, decide_eq_true HF1.out]
                  try rfl
                have HRW2 : Hid (Rw (w12.setCell ⟨w4.heap.size, 5, none⟩ (.string P)) 0 w4.heap.size 31 (urlCells z)) := Lib.hid (by rw [hce]; exact HRE.out)
                have HRG : Hid ((w12.setCell ⟨w4.heap.size, 5, none⟩ (.string P)).rangeAt w4.heap.size 0 (urlCells z)) := Lib.hid (Rw.range HRW2.out 0 (urlCells z) (fun j v hj => by rw [Nat.zero_add]; exact hj))
                have c5 := Rw.cell HRD.out (j := 5) rfl
                have f5 := Rw.free HRD.out 5
                clear hce hzz HRE HRD HKD HRB HKB
                go_wp2_with (first | (refine wpList_load_mid rfl 31 _ rfl w4.heap.size 0 rfl (urlCells z) _ HRG.out Tryz.underlying31 rfl Tryz.sizeUrl ?_) | (refine wpList_store_mid rfl 31 _ _ rfl w.heap.size 0 (urlCells z).toArray rfl rfl (Rw.there HZE.out 0 _ (by simp [urlCells])) Tryz.sizeUrl (url_one _) ?_) | fail)
                have HEND := Lib.hid (Rw.storedAll HZE.out (urlCells z) rfl)
                refine bodyPost_ret (v := .tuple #[urlV z, .int .i64 0]) ?_ rfl ?_
                case refine_2 => rw [HRZ.out]; exact ⟨rfl, below_stores HBE.out (Nat.le_refl _) _⟩
                exact results_row_tmp rfl _ _ w.heap.size 0 31 (urlCells z) _ rfl HEND.out Tryz.underlying31 rfl Tryz.sizeUrl (.int .i64 0) rfl
              · have hQi : ¬ (k4 : Int) < (y.size : Int) := by omega
                have HQ1 := Lib.hid (HQ0.out.2 hQ)
                clear HQC HQ0 hQ
                go_wp2_with fail
                refine (HPA.out _).mono ?_
                rintro e w12 ⟨rfl, hb12⟩
                have HKD := Lib.hid (kept_trans HKB.out (kept_below hb12))
                have HRD := Lib.hid (Rw.below HRB.out hb12)
                clear hb12 c6 f6
                have HRE := Lib.hid (Rw.stored HRD.out 5 (.string P))
                have HKE := Lib.hid (kept_put HKD.out (.inl rfl) 5 (.string P))
                have HZE := Lib.hid (rw_kept HZ7.out HKE.out (by have := HGW.out; omega))
                have HBE := Lib.hid (kept_g HB7.out (by have := HGW.out; omega) HKE.out)
                obtain ⟨z, hzz⟩ : ∃ z, z = tailU sl a q.data.toList := ⟨_, rfl⟩
                have HRZ : Hid (R = some z) := Lib.hid (by rw [hzz]; exact HRS2.out)
                have hce : urlCells z = [strL sl, strL a.usr, strL a.pas, strL a.hos, .int .i64 a.prt, .string P, .bool false, strL [], .bool true, .string FE] := by
                  rw [hzz]
                  show [strL sl, strL a.usr, strL a.pas, strL a.hos, .int .i64 a.prt, strL (pathP (upL [63] (upL [35] q.data.toList))), .bool (decide (fromL [63] (upL [35] q.data.toList) ≠ [])), strL (encL 2 ((fromL [63] (upL [35] q.data.toList)).drop 1)), .bool (decide (fromL [35] q.data.toList ≠ [])), strL (encL 1 ((fromL [35] q.data.toList).drop 1))] = _
                  rw [← HPV.out, HQ1.out, ← HFV.out, decide_eq_true HF1.out]
                  try rfl
                have HRW2 : Hid (Rw (w12.setCell ⟨w4.heap.size, 5, none⟩ (.string P)) 0 w4.heap.size 31 (urlCells z)) := Lib.hid (by rw [hce]; exact HRE.out)
                have HRG : Hid ((w12.setCell ⟨w4.heap.size, 5, none⟩ (.string P)).rangeAt w4.heap.size 0 (urlCells z)) := Lib.hid (Rw.range HRW2.out 0 (urlCells z) (fun j v hj => by rw [Nat.zero_add]; exact hj))
                have c5 := Rw.cell HRD.out (j := 5) rfl
                have f5 := Rw.free HRD.out 5
                clear hce hzz HRE HRD HKD HRB HKB
                go_wp2_with (first | (refine wpList_load_mid rfl 31 _ rfl w4.heap.size 0 rfl (urlCells z) _ HRG.out Tryz.underlying31 rfl Tryz.sizeUrl ?_) | (refine wpList_store_mid rfl 31 _ _ rfl w.heap.size 0 (urlCells z).toArray rfl rfl (Rw.there HZE.out 0 _ (by simp [urlCells])) Tryz.sizeUrl (url_one _) ?_) | fail)
                have HEND := Lib.hid (Rw.storedAll HZE.out (urlCells z) rfl)
                refine bodyPost_ret (v := .tuple #[urlV z, .int .i64 0]) ?_ rfl ?_
                case refine_2 => rw [HRZ.out]; exact ⟨rfl, below_stores HBE.out (Nat.le_refl _) _⟩
                exact results_row_tmp rfl _ _ w.heap.size 0 31 (urlCells z) _ rfl HEND.out Tryz.underlying31 rfl Tryz.sizeUrl (.int .i64 0) rfl
            · have hFi : ¬ (k3 : Int) < (q.size : Int) := by omega
              have HF1 := Lib.hid (HF0.out.2 hF)
              clear HFC HF0 hF
              go_wp2_with fail
              rw [HYX.out]
              refine (HU4B.out _).mono ?_
              rintro e w10 ⟨rfl, rfl⟩
              have HKB := Lib.hid (kept_refl (fun k => k = w4.heap.size) w10)
              have HRB := Lib.hid HR7.out
              clear c8 f8
              have c6 := Rw.cell HRB.out (j := 6) rfl
              have f6 := Rw.free HRB.out 6
              by_cases hQ : k4 < y.size
              · have hQi : (k4 : Int) < (y.size : Int) := by omega
                have hQ1 : (k4 : Int) + 1 ≤ (y.size : Int) := by omega
                have hQ2 : (0 : Int) ≤ (k4 : Int) + 1 := by omega
                have HQC2 := Lib.hid (HQC.out hQ)
                have HQ1 := Lib.hid (HQ0.out.1 hQ)
                clear HQC HQ0 hQ
                go_wp2_with fail
                refine (HQC2.out _).mono ?_
                rintro e w11 ⟨rfl, hb11⟩
                have HKC := Lib.hid (kept_trans (kept_put HKB.out (.inl rfl) 6 (.bool true)) (kept_below hb11))
                have HRC := Lib.hid (Rw.below (Rw.stored HRB.out 6 (.bool true)) hb11)
                clear hb11 c6 f6
                have c7 := Rw.cell HRC.out (j := 7) rfl
                have f7 := Rw.free HRC.out 7
                go_wp2_with fail
                refine (HPA.out _).mono ?_
                rintro e w12 ⟨rfl, hb12⟩
                have HKD := Lib.hid (kept_trans (kept_put HKC.out (.inl rfl) 7 (.string QE)) (kept_below hb12))
                have HRD := Lib.hid (Rw.below (Rw.stored HRC.out 7 (.string QE)) hb12)
                clear hb12 c7 f7
                have HRE := Lib.hid (Rw.stored HRD.out 5 (.string P))
                have HKE := Lib.hid (kept_put HKD.out (.inl rfl) 5 (.string P))
                have HZE := Lib.hid (rw_kept HZ7.out HKE.out (by have := HGW.out; omega))
                have HBE := Lib.hid (kept_g HB7.out (by have := HGW.out; omega) HKE.out)
                obtain ⟨z, hzz⟩ : ∃ z, z = tailU sl a q.data.toList := ⟨_, rfl⟩
                have HRZ : Hid (R = some z) := Lib.hid (by rw [hzz]; exact HRS2.out)
                have hce : urlCells z = [strL sl, strL a.usr, strL a.pas, strL a.hos, .int .i64 a.prt, .string P, .bool true, .string QE, .bool false, strL []] := by
                  rw [hzz]
                  show [strL sl, strL a.usr, strL a.pas, strL a.hos, .int .i64 a.prt, strL (pathP (upL [63] (upL [35] q.data.toList))), .bool (decide (fromL [63] (upL [35] q.data.toList) ≠ [])), strL (encL 2 ((fromL [63] (upL [35] q.data.toList)).drop 1)), .bool (decide (fromL [35] q.data.toList ≠ [])), strL (encL 1 ((fromL [35] q.data.toList).drop 1))] = _
                  rw [← HPV.out, ← HQV.out, decide_eq_true HQ1.out, HF1.out]
                  try rfl
                have HRW2 : Hid (Rw (w12.setCell ⟨w4.heap.size, 5, none⟩ (.string P)) 0 w4.heap.size 31 (urlCells z)) := Lib.hid (by rw [hce]; exact HRE.out)
                have HRG : Hid ((w12.setCell ⟨w4.heap.size, 5, none⟩ (.string P)).rangeAt w4.heap.size 0 (urlCells z)) := Lib.hid (Rw.range HRW2.out 0 (urlCells z) (fun j v hj => by rw [Nat.zero_add]; exact hj))
                have c5 := Rw.cell HRD.out (j := 5) rfl
                have f5 := Rw.free HRD.out 5
                clear hce hzz HRE HRD HKD HRB HKB
                go_wp2_with (first | (refine wpList_load_mid rfl 31 _ rfl w4.heap.size 0 rfl (urlCells z) _ HRG.out Tryz.underlying31 rfl Tryz.sizeUrl ?_) | (refine wpList_store_mid rfl 31 _ _ rfl w.heap.size 0 (urlCells z).toArray rfl rfl (Rw.there HZE.out 0 _ (by simp [urlCells])) Tryz.sizeUrl (url_one _) ?_) | fail)
                have HEND := Lib.hid (Rw.storedAll HZE.out (urlCells z) rfl)
                refine bodyPost_ret (v := .tuple #[urlV z, .int .i64 0]) ?_ rfl ?_
                case refine_2 => rw [HRZ.out]; exact ⟨rfl, below_stores HBE.out (Nat.le_refl _) _⟩
                exact results_row_tmp rfl _ _ w.heap.size 0 31 (urlCells z) _ rfl HEND.out Tryz.underlying31 rfl Tryz.sizeUrl (.int .i64 0) rfl
              · have hQi : ¬ (k4 : Int) < (y.size : Int) := by omega
                have HQ1 := Lib.hid (HQ0.out.2 hQ)
                clear HQC HQ0 hQ
                go_wp2_with fail
                refine (HPA.out _).mono ?_
                rintro e w12 ⟨rfl, hb12⟩
                have HKD := Lib.hid (kept_trans HKB.out (kept_below hb12))
                have HRD := Lib.hid (Rw.below HRB.out hb12)
                clear hb12 c6 f6
                have HRE := Lib.hid (Rw.stored HRD.out 5 (.string P))
                have HKE := Lib.hid (kept_put HKD.out (.inl rfl) 5 (.string P))
                have HZE := Lib.hid (rw_kept HZ7.out HKE.out (by have := HGW.out; omega))
                have HBE := Lib.hid (kept_g HB7.out (by have := HGW.out; omega) HKE.out)
                obtain ⟨z, hzz⟩ : ∃ z, z = tailU sl a q.data.toList := ⟨_, rfl⟩
                have HRZ : Hid (R = some z) := Lib.hid (by rw [hzz]; exact HRS2.out)
                have hce : urlCells z = [strL sl, strL a.usr, strL a.pas, strL a.hos, .int .i64 a.prt, .string P, .bool false, strL [], .bool false, strL []] := by
                  rw [hzz]
                  show [strL sl, strL a.usr, strL a.pas, strL a.hos, .int .i64 a.prt, strL (pathP (upL [63] (upL [35] q.data.toList))), .bool (decide (fromL [63] (upL [35] q.data.toList) ≠ [])), strL (encL 2 ((fromL [63] (upL [35] q.data.toList)).drop 1)), .bool (decide (fromL [35] q.data.toList ≠ [])), strL (encL 1 ((fromL [35] q.data.toList).drop 1))] = _
                  rw [← HPV.out, HQ1.out, HF1.out]
                  try rfl
                have HRW2 : Hid (Rw (w12.setCell ⟨w4.heap.size, 5, none⟩ (.string P)) 0 w4.heap.size 31 (urlCells z)) := Lib.hid (by rw [hce]; exact HRE.out)
                have HRG : Hid ((w12.setCell ⟨w4.heap.size, 5, none⟩ (.string P)).rangeAt w4.heap.size 0 (urlCells z)) := Lib.hid (Rw.range HRW2.out 0 (urlCells z) (fun j v hj => by rw [Nat.zero_add]; exact hj))
                have c5 := Rw.cell HRD.out (j := 5) rfl
                have f5 := Rw.free HRD.out 5
                clear hce hzz HRE HRD HKD HRB HKB
                go_wp2_with (first | (refine wpList_load_mid rfl 31 _ rfl w4.heap.size 0 rfl (urlCells z) _ HRG.out Tryz.underlying31 rfl Tryz.sizeUrl ?_) | (refine wpList_store_mid rfl 31 _ _ rfl w.heap.size 0 (urlCells z).toArray rfl rfl (Rw.there HZE.out 0 _ (by simp [urlCells])) Tryz.sizeUrl (url_one _) ?_) | fail)
                have HEND := Lib.hid (Rw.storedAll HZE.out (urlCells z) rfl)
                refine bodyPost_ret (v := .tuple #[urlV z, .int .i64 0]) ?_ rfl ?_
                case refine_2 => rw [HRZ.out]; exact ⟨rfl, below_stores HBE.out (Nat.le_refl _) _⟩
                exact results_row_tmp rfl _ _ w.heap.size 0 31 (urlCells z) _ rfl HEND.out Tryz.underlying31 rfl Tryz.sizeUrl (.int .i64 0) rfl

end Go.Proofs.YtnecjofgjbfheaaGreatDoor
