/- Contracts: msg: the reader: a message of one Kind. -/
import Derived.BigRegion
import Derived.Deep.RegionHeld3
import Derived.Test.YtpbdilbimpnmjaaProg
import Derived.Test.YtpbdilbimpnmjaaKit
import Derived.Test.YtpbdilbimpnmjaaRow
import Derived.Test.YtpbdilbimpnmjaaCod7
import Derived.Test.YtpbdilbimpnmjaaFp
import Derived.Test.YtpbdilbimpnmjaaKp0
import Derived.Test.YtpbdilbimpnmjaaKp1
import Derived.Test.YtpbdilbimpnmjaaMg0
import Derived.Test.YtpbdilbimpnmjaaMg5
import Derived.Test.YtpbdilbimpnmjaaMd1
import Derived.Test.YtpbdilbimpnmjaaMd4
import Derived.Test.YtpbdilbimpnmjaaMd5
import Derived.Test.YtpbdilbimpnmjaaMd6
namespace Go.Proofs.Ytpbdilbimpnmjaa
open Go.RowKit Go.Proofs

set_option maxRecDepth 100000 in
set_option maxHeartbeats 16000000 in
theorem rmessage_k5 {w : World} {B g : Nat} {s : List UInt8 × Bool} (h : RdAt w B g s) (hk6 : (numR 1 s).1 = 5) :
    Calls Try.prog 23 #[.pointer (some ⟨g, 0, none⟩)] w fun e w' => MsgRV w w' B g e (msgR s) := by
  have hz := zero_cells Try.infoMsg
  have hg := rdAt_lt h
  have hpos := numR_pos 1 s
  have hb1 := below_more (Below.refl _ w) (.cells #[.int .i64 0, .int .i64 0, .int .i64 0, .int .i64 0, .int .i64 0, .int .i64 0, .int .i64 0, .bool false, .slice none 0 0, .int .i64 0, .int .i64 0, .slice none 0 0, .string ⟨#[]⟩] 27)
  have HNM := Lib.hid (rnumber_any (rdAt_below h hb1) 1 (by decide))
  have HRR := Lib.hid (Rw.alloc w 27 #[.int .i64 0, .int .i64 0, .int .i64 0, .int .i64 0, .int .i64 0, .int .i64 0, .int .i64 0, .bool false, .slice none 0 0, .int .i64 0, .int .i64 0, .slice none 0 0, .string ⟨#[]⟩] (Nat.zero_le _))
  obtain ⟨x, hx⟩ : ∃ x, x = numR 1 s := ⟨_, rfl⟩
  rw [← hx] at HNM hpos hk6
  obtain ⟨a, ha⟩ : ∃ a, a = numR 8 x.2 := ⟨_, rfl⟩
  obtain ⟨b, hb⟩ : ∃ b, b = numR 8 a.2 := ⟨_, rfl⟩
  obtain ⟨c, hc⟩ : ∃ c, c = numR 8 b.2 := ⟨_, rfl⟩
  have HMS := Lib.hid (msgR_of (q0 := c.2) hx ha hb hc rfl)
  have HI3 : Hid (([a.1, b.1, c.1], c.2) = intsR 3 x.2) := Lib.hid (by rw [intsR_three, ← ha, ← hb, ← hc])
  obtain ⟨y, hy⟩ : ∃ y, y = msgR s := ⟨_, rfl⟩
  rw [← hy] at HMS ⊢
  obtain ⟨x1, x2⟩ := x
  dsimp only at HMS HI3 hpos hk6
  obtain ⟨K, rfl⟩ := Int.eq_ofNat_of_zero_le hpos
  have HG := Lib.hid hg
  have HB := Lib.hid h.1
  have HB1 := Lib.hid hb1
  have HK6 := Lib.hid hk6
  clear h hg hpos hb1 hx ha hb hc hy hk6
  go_enter Try.func23, Try.ntmps23
  go_wp2_with (first | (refine wpList_alloc_z rfl 27 rfl #[.int .i64 0, .int .i64 0, .int .i64 0, .int .i64 0, .int .i64 0, .int .i64 0, .int .i64 0, .bool false, .slice none 0 0, .int .i64 0, .int .i64 0, .slice none 0 0, .string ⟨#[]⟩] hz ?_) | fail)
  refine (HNM.out).mono ?_
  rintro e w2 ⟨rfl, hv2⟩
  dsimp only at hv2 ⊢
  have hs2 : w.heap.size + 1 ≤ w2.heap.size := by have := hv2.2.size; simpa using this
  have hb3 := below_more (Below.refl _ w2) (.cells #[.int .i64 K, .int .i64 0, .int .i64 0, .int .i64 0, .int .i64 0, .int .i64 0, .int .i64 0, .bool false, .slice none 0 0, .int .i64 0, .int .i64 0, .slice none 0 0, .string ⟨#[]⟩] 27)
  have hr3 : Rw (w2.alloc (.cells #[.int .i64 K, .int .i64 0, .int .i64 0, .int .i64 0, .int .i64 0, .int .i64 0, .int .i64 0, .bool false, .slice none 0 0, .int .i64 0, .int .i64 0, .slice none 0 0, .string ⟨#[]⟩] 27)) 0 w2.heap.size 27 [.int .i64 K, .int .i64 0, .int .i64 0, .int .i64 0, .int .i64 0, .int .i64 0, .int .i64 0, .bool false, .slice none 0 0, .int .i64 0, .int .i64 0, .slice none 0 0, .string ⟨#[]⟩] := Rw.alloc w2 _ _ (Nat.zero_le _)
  have hrr3 : Rw (w2.alloc (.cells #[.int .i64 K, .int .i64 0, .int .i64 0, .int .i64 0, .int .i64 0, .int .i64 0, .int .i64 0, .bool false, .slice none 0 0, .int .i64 0, .int .i64 0, .slice none 0 0, .string ⟨#[]⟩] 27)) 0 w.heap.size 27 [.int .i64 0, .int .i64 0, .int .i64 0, .int .i64 0, .int .i64 0, .int .i64 0, .int .i64 0, .bool false, .slice none 0 0, .int .i64 0, .int .i64 0, .slice none 0 0, .string ⟨#[]⟩] := Rw.below (rw_kept HRR.out hv2.2 (by have := HG.out; omega)) hb3
  have hk3 : Kept (fun k => k = g) w (w2.alloc (.cells #[.int .i64 K, .int .i64 0, .int .i64 0, .int .i64 0, .int .i64 0, .int .i64 0, .int .i64 0, .bool false, .slice none 0 0, .int .i64 0, .int .i64 0, .slice none 0 0, .string ⟨#[]⟩] 27)) := kept_then (G := fun _ => False) (kept_then (kept_below HB1.out) hv2.2 (fun x hx => .inl hx)) (kept_below hb3) (fun _ h => h.elim)
  have HNE : Hid (w2.heap.size ≠ g) := Lib.hid (by have := HG.out; omega)
  have HBM : Hid (B ≤ w2.heap.size) := Lib.hid (by have := HG.out; have := HB.out; omega)
  have HNR : Hid (w.heap.size ≠ g) := Lib.hid (by have := HG.out; omega)
  have HBR : Hid (B ≤ w.heap.size) := Lib.hid (by have := HG.out; have := HB.out; omega)
  have HRM : Hid (w.heap.size ≠ w2.heap.size) := Lib.hid (by omega)
  have HWM : Hid (w.heap.size ≤ w2.heap.size) := Lib.hid (by omega)
  have HPT := Lib.hid (rptrs_new (rdAt_below hv2.1 hb3) hr3 HBM.out HNE.out (js := [1, 2, 3]) (n := 3) rfl (fun j hj => by simp at hj; rcases hj with rfl | rfl | rfl <;> simp) (by decide) (ps := #[.pointer (some ⟨w2.heap.size, 1, none⟩), .pointer (some ⟨w2.heap.size, 2, none⟩), .pointer (some ⟨w2.heap.size, 3, none⟩)]) rfl (p := w2.heap.size + 1) (by simp) HI3.out)
  have HK3 := Lib.hid hk3
  have HRR3 := Lib.hid hrr3
  clear hv2 hs2 hb3 hr3 hrr3 hk3 HNM
  go_wp2_with (first | (refine wpList_alloc_z rfl 27 rfl #[.int .i64 0, .int .i64 0, .int .i64 0, .int .i64 0, .int .i64 0, .int .i64 0, .int .i64 0, .bool false, .slice none 0 0, .int .i64 0, .int .i64 0, .slice none 0 0, .string ⟨#[]⟩] hz ?_) | fail)
  refine (HPT.out).mono ?_
  rintro e w5 ⟨rfl, hrd5, hrm5, hk5⟩
  dsimp only [setL, List.set] at hrm5 hrd5
  have hrr5 := rw_kept HRR3.out hk5 (fun e => e.elim HNR.out HRM.out)
  have hkk5 := kept_gm HK3.out hk5 HWM.out
  have x0 : w5.cell? ⟨w2.heap.size, 0, none⟩ = some (.int .i64 K) := Rw.cell hrm5 rfl
  have HRD := Lib.hid hrd5
  have HM := Lib.hid hrm5
  have HR := Lib.hid hrr5
  have HK := Lib.hid hkk5
  clear hrd5 hrm5 hk5 hrr5 hkk5 HPT HI3
  have hk6 := HK6.out
  obtain ⟨d, hd⟩ : ∃ d, d = snpR c.2 := ⟨_, rfl⟩
  have HQ := Lib.hid (HMS.out.trans (bodyR5 hk6 hd))
  have HSN := Lib.hid (rsnap_any HRD.out)
  rw [← hd] at HSN
  have HDL : Hid (d.1.ms.length ≤ 1000000) := Lib.hid (by rw [hd, snpR_full]; exact lstR_len _)
  have q1 : ((K : Int) == 1) = false := by rw [beq_eq_false_iff_ne]; omega
  have q2 : ((K : Int) == 2) = false := by rw [beq_eq_false_iff_ne]; omega
  have q3 : ((K : Int) == 3) = false := by rw [beq_eq_false_iff_ne]; omega
  have q4 : ((K : Int) == 4) = false := by rw [beq_eq_false_iff_ne]; omega
  have q5 : ((K : Int) == 5) = true := by rw [beq_iff_eq]; omega
  clear hk6 hd
  go_wp2_with fail
  refine (HSN.out).mono ?_
  rintro e wy ⟨u, rfl, hu, hv⟩
  obtain ⟨ua, uc, rfl⟩ := own_len hu
  obtain ⟨ML, hML⟩ : ∃ ML, ML = d.1.ms.length := ⟨_, rfl⟩
  rw [← hML] at hu ⊢
  have hrm := rw_kept HM.out hv.2 HNE.out
  have hrr := rw_kept HR.out hv.2 HNR.out
  have hrm2 : Rw (wy.setCells w2.heap.size 9 [.int .i64 d.1.ix, .int .i64 d.1.tm, .slice ua ML uc, .string d.1.d]) 0 w2.heap.size 27 [.int .i64 K, .int .i64 a.1, .int .i64 b.1, .int .i64 c.1, .int .i64 0, .int .i64 0, .int .i64 0, .bool false, .slice none 0 0, .int .i64 d.1.ix, .int .i64 d.1.tm, .slice ua ML uc, .string d.1.d] := setCells_rw [.int .i64 d.1.ix, .int .i64 d.1.tm, .slice ua ML uc, .string d.1.d] wy [.int .i64 K, .int .i64 a.1, .int .i64 b.1, .int .i64 c.1, .int .i64 0, .int .i64 0, .int .i64 0, .bool false, .slice none 0 0] [.int .i64 0, .int .i64 0, .slice none 0 0, .string ⟨#[]⟩] hrm rfl
  have hkm : Kept (fun k => k = w2.heap.size) wy (wy.setCells w2.heap.size 9 [.int .i64 d.1.ix, .int .i64 d.1.tm, .slice ua ML uc, .string d.1.d]) := kept_puts (F := fun k => k = w2.heap.size) (.inl rfl) _ 9 (kept_refl _ _)
  have hrr2 := rw_kept hrr hkm HRM.out
  have hrd2 := rdAt_kept hv.1 HBM.out HNE.out hkm
  have hkk2 := kept_gm (gm := w2.heap.size) (kept_trans HK.out hv.2) (kept_mono hkm (fun x hx => .inl (.inr hx))) HWM.out
  have hou := own_stores hu hrm (by decide) 9 [.int .i64 d.1.ix, .int .i64 d.1.tm, .slice ua ML uc, .string d.1.d]
  have HMY := Lib.hid hrm
  obtain ⟨wz, hwn⟩ : ∃ wn, wn = wy.setCells w2.heap.size 9 [.int .i64 d.1.ix, .int .i64 d.1.tm, .slice ua ML uc, .string d.1.d] := ⟨_, rfl⟩
  rw [← hwn] at hrm2 hrr2 hrd2 hkk2 hou
  clear HRD HM HR HK HSN
  have HRD := Lib.hid hrd2
  have HM := Lib.hid hrm2
  have HR := Lib.hid hrr2
  have HK := Lib.hid hkk2
  have HWN := Lib.hid hwn
  have HOU := Lib.hid hou
  have HMLN := Lib.hid hML
  clear hML hu hv hrm hrr hrm2 hkm hrr2 hrd2 hkk2 hwn hou
  clear x0
  obtain ⟨hrdv, hend⟩ := md_end HRD.out HK.out HR.out HBR.out HNR.out (Nat.le_refl _) (xs := [.int .i64 K, .int .i64 a.1, .int .i64 b.1, .int .i64 c.1, .int .i64 0, .int .i64 0, .int .i64 0, .bool false, .slice none 0 0, .int .i64 d.1.ix, .int .i64 d.1.tm, .slice ua ML uc, .string d.1.d]) rfl
  have hms := own_stores HOU.out HR.out (by decide) 0 [.int .i64 K, .int .i64 a.1, .int .i64 b.1, .int .i64 c.1, .int .i64 0, .int .i64 0, .int .i64 0, .bool false, .slice none 0 0, .int .i64 d.1.ix, .int .i64 d.1.tm, .slice ua ML uc, .string d.1.d]
  have HMS2 : Hid (World.ownsRow (wz.setCells w.heap.size 0 [.int .i64 K, .int .i64 a.1, .int .i64 b.1, .int .i64 c.1, .int .i64 0, .int .i64 0, .int .i64 0, .bool false, .slice none 0 0, .int .i64 d.1.ix, .int .i64 d.1.tm, .slice ua ML uc, .string d.1.d]) 0 3 1 (.slice ua ML uc) d.1.ms.length (d.1.ms.map kiV)) := Lib.hid (by rw [← HMLN.out]; exact own_mono hms (Nat.zero_le _))
  clear hms
  have HRDV := Lib.hid hrdv
  have HEND := Lib.hid hend
  clear hrdv hend
  go_wp2_with (first | (refine wpList_store_mid rfl 25 _ _ rfl w2.heap.size 9 #[.int .i64 d.1.ix, .int .i64 d.1.tm, .slice ua ML uc, .string d.1.d] rfl rfl (Rw.there HMY.out 9 _ (by simp)) Try.sizeSnap (snp_one _ _ _ _ _ _) ?_) | (rw [← HWN.out]; refine wpList_load_mid rfl 27 _ rfl w2.heap.size 0 rfl [.int .i64 K, .int .i64 a.1, .int .i64 b.1, .int .i64 c.1, .int .i64 0, .int .i64 0, .int .i64 0, .bool false, .slice none 0 0, .int .i64 d.1.ix, .int .i64 d.1.tm, .slice ua ML uc, .string d.1.d] _ (Rw.whole HM.out) Try.underlying27 rfl Try.sizeMsg ?_) | (refine wpList_store_mid rfl 27 _ _ rfl w.heap.size 0 #[.int .i64 K, .int .i64 a.1, .int .i64 b.1, .int .i64 c.1, .int .i64 0, .int .i64 0, .int .i64 0, .bool false, .slice none 0 0, .int .i64 d.1.ix, .int .i64 d.1.tm, .slice ua ML uc, .string d.1.d] rfl rfl (Rw.there HR.out 0 _ (by simp)) Try.sizeMsg (msg_one _ _ _ _ _ _ _ _ _ _ _ _ _ _ _ _ _) ?_) | fail)
  refine bodyPost_ret (v := .agg #[.int .i64 K, .int .i64 a.1, .int .i64 b.1, .int .i64 c.1, .int .i64 0, .int .i64 0, .int .i64 0, .bool false, .slice none 0 0, .int .i64 d.1.ix, .int .i64 d.1.tm, .slice ua ML uc, .string d.1.d]) ?_ rfl ⟨.slice none 0 0, .slice ua ML uc, by rw [HQ.out]; rfl, by rw [HQ.out]; exact ⟨ownE_nil _, by simp, HMS2.out, HDL.out⟩, by rw [HQ.out]; exact HRDV.out⟩
  exact results_cell_row rfl _ _ w.heap.size _ _ _ _ rfl HEND.out.2 Try.underlying27 rfl Try.sizeMsg

end Go.Proofs.Ytpbdilbimpnmjaa
