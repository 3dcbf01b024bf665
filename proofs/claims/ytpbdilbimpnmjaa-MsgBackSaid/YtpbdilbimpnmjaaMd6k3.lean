/- Contracts: msg: the reader: a message of one Kind. -/
import Derived.BigRegion
import Derived.Deep.RegionHeld3
import Derived.Test.YtpbdilbimpnmjaaProg
import Derived.Test.YtpbdilbimpnmjaaKit
import Derived.Test.YtpbdilbimpnmjaaRow
import Derived.Test.YtpbdilbimpnmjaaCod7
import Derived.Test.YtpbdilbimpnmjaaFp
import Derived.Test.YtpbdilbimpnmjaaKp0
import Derived.Test.YtpbdilbimpnmjaaKp1
import Derived.Test.YtpbdilbimpnmjaaMg0
import Derived.Test.YtpbdilbimpnmjaaMg5
import Derived.Test.YtpbdilbimpnmjaaMd1
import Derived.Test.YtpbdilbimpnmjaaMd4
import Derived.Test.YtpbdilbimpnmjaaMd5
import Derived.Test.YtpbdilbimpnmjaaMd6
namespace Go.Proofs.Ytpbdilbimpnmjaa
open Go.RowKit Go.Proofs

set_option maxRecDepth 100000 in
set_option maxHeartbeats 16000000 in
theorem rmessage_k3 {w : World} {B g : Nat} {s : List UInt8 × Bool} (h : RdAt w B g s) (hk6 : (numR 1 s).1 = 3) :
    Calls Try.prog 23 #[.pointer (some ⟨g, 0, none⟩)] w fun e w' => MsgRV w w' B g e (msgR s) := by
  have hz := zero_cells Try.infoMsg
  have hg := rdAt_lt h
  have hpos := numR_pos 1 s
  have hb1 := below_more (Below.refl _ w) (.cells #[.int .i64 0, .int .i64 0, .int .i64 0, .int .i64 0, .int .i64 0, .int .i64 0, .int .i64 0, .bool false, .slice none 0 0, .int .i64 0, .int .i64 0, .slice none 0 0, .string ⟨#[]⟩] 27)
  have HNM := Lib.hid (rnumber_any (rdAt_below h hb1) 1 (by decide))
  have HRR := Lib.hid (Rw.alloc w 27 #[.int .i64 0, .int .i64 0, .int .i64 0, .int .i64 0, .int .i64 0, .int .i64 0, .int .i64 0, .bool false, .slice none 0 0, .int .i64 0, .int .i64 0, .slice none 0 0, .string ⟨#[]⟩] (Nat.zero_le _))
  obtain ⟨x, hx⟩ : ∃ x, x = numR 1 s := ⟨_, rfl⟩
  rw [← hx] at HNM hpos hk6
  obtain ⟨a, ha⟩ : ∃ a, a = numR 8 x.2 := ⟨_, rfl⟩
  obtain ⟨b, hb⟩ : ∃ b, b = numR 8 a.2 := ⟨_, rfl⟩
  obtain ⟨c, hc⟩ : ∃ c, c = numR 8 b.2 := ⟨_, rfl⟩
  have HMS := Lib.hid (msgR_of (q0 := c.2) hx ha hb hc rfl)
  have HI3 : Hid (([a.1, b.1, c.1], c.2) = intsR 3 x.2) := Lib.hid (by rw [intsR_three, ← ha, ← hb, ← hc])
  obtain ⟨y, hy⟩ : ∃ y, y = msgR s := ⟨_, rfl⟩
  rw [← hy] at HMS ⊢
  obtain ⟨x1, x2⟩ := x
  dsimp only at HMS HI3 hpos hk6
  obtain ⟨K, rfl⟩ := Int.eq_ofNat_of_zero_le hpos
  have HG := Lib.hid hg
  have HB := Lib.hid h.1
  have HB1 := Lib.hid hb1
  have HK6 := Lib.hid hk6
  clear h hg hpos hb1 hx ha hb hc hy hk6
  go_enter Try.func23, Try.ntmps23
  go_wp2_with (first | (refine wpList_alloc_z rfl 27 rfl #[.int .i64 0, .int .i64 0, .int .i64 0, .int .i64 0, .int .i64 0, .int .i64 0, .int .i64 0, .bool false, .slice none 0 0, .int .i64 0, .int .i64 0, .slice none 0 0, .string ⟨#[]⟩] hz ?_) | fail)
  refine (HNM.out).mono ?_
  rintro e w2 ⟨rfl, hv2⟩
  dsimp only at hv2 ⊢
  have hs2 : w.heap.size + 1 ≤ w2.heap.size := by have := hv2.2.size; simpa using this
  have hb3 := below_more (Below.refl _ w2) (.cells #[.int .i64 K, .int .i64 0, .int .i64 0, .int .i64 0, .int .i64 0, .int .i64 0, .int .i64 0, .bool false, .slice none 0 0, .int .i64 0, .int .i64 0, .slice none 0 0, .string ⟨#[]⟩] 27)
  have hr3 : Rw (w2.alloc (.cells #[.int .i64 K, .int .i64 0, .int .i64 0, .int .i64 0, .int .i64 0, .int .i64 0, .int .i64 0, .bool false, .slice none 0 0, .int .i64 0, .int .i64 0, .slice none 0 0, .string ⟨#[]⟩] 27)) 0 w2.heap.size 27 [.int .i64 K, .int .i64 0, .int .i64 0, .int .i64 0, .int .i64 0, .int .i64 0, .int .i64 0, .bool false, .slice none 0 0, .int .i64 0, .int .i64 0, .slice none 0 0, .string ⟨#[]⟩] := Rw.alloc w2 _ _ (Nat.zero_le _)
  have hrr3 : Rw (w2.alloc (.cells #[.int .i64 K, .int .i64 0, .int .i64 0, .int .i64 0, .int .i64 0, .int .i64 0, .int .i64 0, .bool false, .slice none 0 0, .int .i64 0, .int .i64 0, .slice none 0 0, .string ⟨#[]⟩] 27)) 0 w.heap.size 27 [.int .i64 0, .int .i64 0, .int .i64 0, .int .i64 0, .int .i64 0, .int .i64 0, .int .i64 0, .bool false, .slice none 0 0, .int .i64 0, .int .i64 0, .slice none 0 0, .string ⟨#[]⟩] := Rw.below (rw_kept HRR.out hv2.2 (by have := HG.out; omega)) hb3
  have hk3 : Kept (fun k => k = g) w (w2.alloc (.cells #[.int .i64 K, .int .i64 0, .int .i64 0, .int .i64 0, .int .i64 0, .int .i64 0, .int .i64 0, .bool false, .slice none 0 0, .int .i64 0, .int .i64 0, .slice none 0 0, .string ⟨#[]⟩] 27)) := kept_then (G := fun _ => False) (kept_then (kept_below HB1.out) hv2.2 (fun x hx => .inl hx)) (kept_below hb3) (fun _ h => h.elim)
  have HNE : Hid (w2.heap.size ≠ g) := Lib.hid (by have := HG.out; omega)
  have HBM : Hid (B ≤ w2.heap.size) := Lib.hid (by have := HG.out; have := HB.out; omega)
  have HNR : Hid (w.heap.size ≠ g) := Lib.hid (by have := HG.out; omega)
  have HBR : Hid (B ≤ w.heap.size) := Lib.hid (by have := HG.out; have := HB.out; omega)
  have HRM : Hid (w.heap.size ≠ w2.heap.size) := Lib.hid (by omega)
  have HWM : Hid (w.heap.size ≤ w2.heap.size) := Lib.hid (by omega)
  have HPT := Lib.hid (rptrs_new (rdAt_below hv2.1 hb3) hr3 HBM.out HNE.out (js := [1, 2, 3]) (n := 3) rfl (fun j hj => by simp at hj; rcases hj with rfl | rfl | rfl <;> simp) (by decide) (ps := #[.pointer (some ⟨w2.heap.size, 1, none⟩), .pointer (some ⟨w2.heap.size, 2, none⟩), .pointer (some ⟨w2.heap.size, 3, none⟩)]) rfl (p := w2.heap.size + 1) (by simp) HI3.out)
  have HK3 := Lib.hid hk3
  have HRR3 := Lib.hid hrr3
  clear hv2 hs2 hb3 hr3 hrr3 hk3 HNM
  go_wp2_with (first | (refine wpList_alloc_z rfl 27 rfl #[.int .i64 0, .int .i64 0, .int .i64 0, .int .i64 0, .int .i64 0, .int .i64 0, .int .i64 0, .bool false, .slice none 0 0, .int .i64 0, .int .i64 0, .slice none 0 0, .string ⟨#[]⟩] hz ?_) | fail)
  refine (HPT.out).mono ?_
  rintro e w5 ⟨rfl, hrd5, hrm5, hk5⟩
  dsimp only [setL, List.set] at hrm5 hrd5
  have hrr5 := rw_kept HRR3.out hk5 (fun e => e.elim HNR.out HRM.out)
  have hkk5 := kept_gm HK3.out hk5 HWM.out
  have x0 : w5.cell? ⟨w2.heap.size, 0, none⟩ = some (.int .i64 K) := Rw.cell hrm5 rfl
  have HRD := Lib.hid hrd5
  have HM := Lib.hid hrm5
  have HR := Lib.hid hrr5
  have HK := Lib.hid hkk5
  clear hrd5 hrm5 hk5 hrr5 hkk5 HPT HI3
  have hk6 := HK6.out
  obtain ⟨d, hd⟩ : ∃ d, d = numR 8 c.2 := ⟨_, rfl⟩
  obtain ⟨e, he⟩ : ∃ e, e = numR 8 d.2 := ⟨_, rfl⟩
  obtain ⟨f, hf⟩ : ∃ f, f = numR 8 e.2 := ⟨_, rfl⟩
  obtain ⟨nn, hnn⟩ : ∃ nn, nn = numR 1 f.2 := ⟨_, rfl⟩
  obtain ⟨u, hu⟩ : ∃ u, u = entsR nn.1.toNat nn.2 := ⟨_, rfl⟩
  have HQ := Lib.hid (HMS.out.trans (bodyR3 hk6 hd he hf hnn hu))
  have HUN : Hid (u = entsR (numR 1 f.2).1.toNat (numR 1 f.2).2) := Lib.hid (by rw [hu, hnn])
  have HUL : Hid (u.1.length ≤ 1000000) := Lib.hid (by rw [hu, entsR_len]; have h1 := numR_byte f.2; rw [← hnn] at h1; omega)
  have HPT := Lib.hid (rptrs_new HRD.out HM.out HBM.out HNE.out (js := [4, 5, 6]) (n := 3) rfl (fun j hj => by simp at hj; rcases hj with rfl | rfl | rfl <;> simp) (by decide) (ps := #[.pointer (some ⟨w2.heap.size, 4, none⟩), .pointer (some ⟨w2.heap.size, 5, none⟩), .pointer (some ⟨w2.heap.size, 6, none⟩)]) rfl (p := w5.heap.size) rfl (r := ([d.1, e.1, f.1], f.2)) (by rw [intsR_three, ← hd, ← he, ← hf]))
  have q1 : ((K : Int) == 1) = false := by rw [beq_eq_false_iff_ne]; omega
  have q2 : ((K : Int) == 2) = false := by rw [beq_eq_false_iff_ne]; omega
  have q3 : ((K : Int) == 3) = true := by rw [beq_iff_eq]; omega
  clear hk6 hd he hf hnn hu
  go_wp2_with fail
  refine (HPT.out).mono ?_
  rintro e w7 ⟨rfl, hrd, hrm, hk⟩
  dsimp only [setL, List.set] at hrm hrd
  have hrr := rw_kept HR.out hk (fun e => e.elim HNR.out HRM.out)
  have hkk := kept_gm HK.out hk HWM.out
  clear HRD HM HR HK HPT
  have HRD := Lib.hid hrd
  have HM := Lib.hid hrm
  have HR := Lib.hid hrr
  have HK := Lib.hid hkk
  clear hrd hrm hk hrr hkk
  have HEN := Lib.hid (rentries_any HRD.out)
  rw [← HUN.out] at HEN
  go_wp2_with fail
  refine (HEN.out).mono ?_
  rintro ee wy ⟨vv, rfl, ⟨ns, hm1, hm2, hm3, hm4⟩, hrd⟩
  obtain ⟨va, vc, rfl⟩ := own_len hm2.1
  obtain ⟨NL, hNL⟩ : ∃ NL, NL = ns.length := ⟨_, rfl⟩
  rw [← hNL] at hm2 hm3 ⊢
  have hrm := rw_kept HM.out hm4 HNE.out
  have hrr := rw_kept HR.out hm4 HNR.out
  have xx := Rw.cell hrm (j := 8) rfl
  have ff := Rw.free hrm 8
  have hrm2 := Rw.stored hrm 8 (.slice va NL vc)
  have hrr2 := Rw.other hrr HRM.out.symm 8 (.slice va NL vc)
  have hrd2 := rd_put hrd HBM.out HNE.out 8 (.slice va NL vc)
  have hkk2 : Kept (fun k => k = g) w (wy.setCell ⟨w2.heap.size, 8, none⟩ (.slice va NL vc)) := kept_put (kept_trans HK.out hm4) (.inr HWM.out) 8 _
  have hoe : OwnE (wy.setCell ⟨w2.heap.size, 8, none⟩ (.slice va NL vc)) 0 (.slice va NL vc) ns := ⟨own_store hm2.1 hrm (by decide) 8 _, fun r hr => ⟨own_store (hm2.2 r hr).1 hrm (by decide) 8 _, (hm2.2 r hr).2⟩⟩
  obtain ⟨wz, hwn⟩ : ∃ wn, wn = wy.setCell ⟨w2.heap.size, 8, none⟩ (.slice va NL vc) := ⟨_, rfl⟩
  rw [← hwn] at hrm2 hrr2 hrd2 hkk2 hoe
  dsimp only [List.set] at hrm2
  clear HRD HM HR HK HEN
  have HRD := Lib.hid hrd2
  have HM := Lib.hid hrm2
  have HR := Lib.hid hrr2
  have HK := Lib.hid hkk2
  have HWN := Lib.hid hwn
  have HOE := Lib.hid hoe
  have HM1 := Lib.hid hm1
  have HNL := Lib.hid hNL
  clear hm1 hm2 hm3 hm4 hNL hrd hrm hrr hrm2 hrr2 hrd2 hkk2 hwn hoe
  clear x0
  obtain ⟨hrdv, hend⟩ := md_end HRD.out HK.out HR.out HBR.out HNR.out (Nat.le_refl _) (xs := [.int .i64 K, .int .i64 a.1, .int .i64 b.1, .int .i64 c.1, .int .i64 d.1, .int .i64 e.1, .int .i64 f.1, .bool false, .slice va NL vc, .int .i64 0, .int .i64 0, .slice none 0 0, .string ⟨#[]⟩]) rfl
  have HES : Hid (∃ ns : List RecE, ns.map (·.e) = u.1 ∧ OwnE (wz.setCells w.heap.size 0 [.int .i64 K, .int .i64 a.1, .int .i64 b.1, .int .i64 c.1, .int .i64 d.1, .int .i64 e.1, .int .i64 f.1, .bool false, .slice va NL vc, .int .i64 0, .int .i64 0, .slice none 0 0, .string ⟨#[]⟩]) 0 (.slice va NL vc) ns) := Lib.hid ⟨ns, HM1.out, own_stores HOE.out.1 HR.out (by decide) 0 _, fun r hr => ⟨own_stores (HOE.out.2 r hr).1 HR.out (by decide) 0 _, (HOE.out.2 r hr).2⟩⟩
  have HEL := HUL
  have HRDV := Lib.hid hrdv
  have HEND := Lib.hid hend
  clear hrdv hend
  go_wp2_with (first | (rw [← HWN.out]; refine wpList_load_mid rfl 27 _ rfl w2.heap.size 0 rfl [.int .i64 K, .int .i64 a.1, .int .i64 b.1, .int .i64 c.1, .int .i64 d.1, .int .i64 e.1, .int .i64 f.1, .bool false, .slice va NL vc, .int .i64 0, .int .i64 0, .slice none 0 0, .string ⟨#[]⟩] _ (Rw.whole HM.out) Try.underlying27 rfl Try.sizeMsg ?_) | (refine wpList_store_mid rfl 27 _ _ rfl w.heap.size 0 #[.int .i64 K, .int .i64 a.1, .int .i64 b.1, .int .i64 c.1, .int .i64 d.1, .int .i64 e.1, .int .i64 f.1, .bool false, .slice va NL vc, .int .i64 0, .int .i64 0, .slice none 0 0, .string ⟨#[]⟩] rfl rfl (Rw.there HR.out 0 _ (by simp)) Try.sizeMsg (msg_one _ _ _ _ _ _ _ _ _ _ _ _ _ _ _ _ _) ?_) | fail)
  refine bodyPost_ret (v := .agg #[.int .i64 K, .int .i64 a.1, .int .i64 b.1, .int .i64 c.1, .int .i64 d.1, .int .i64 e.1, .int .i64 f.1, .bool false, .slice va NL vc, .int .i64 0, .int .i64 0, .slice none 0 0, .string ⟨#[]⟩]) ?_ rfl ⟨.slice va NL vc, .slice none 0 0, by rw [HQ.out]; rfl, by rw [HQ.out]; exact ⟨HES.out, HEL.out, World.ownsRow_nil _ _ _ _, by simp [zeroSn]⟩, by rw [HQ.out]; exact HRDV.out⟩
  exact results_cell_row rfl _ _ w.heap.size _ _ _ _ rfl HEND.out.2 Try.underlying27 rfl Try.sizeMsg

theorem intsR_one (s : List UInt8 × Bool) : intsR 1 s = ([(numR 8 s).1], (numR 8 s).2) := by simp only [intsR]

set_option maxRecDepth 100000 in
set_option maxHeartbeats 16000000 in
theorem rmessage_k4 {w : World} {B g : Nat} {s : List UInt8 × Bool} (h : RdAt w B g s) (hk6 : (numR 1 s).1 = 4) :
    Calls Try.prog 23 #[.pointer (some ⟨g, 0, none⟩)] w fun e w' => MsgRV w w' B g e (msgR s) := by
  have hz := zero_cells Try.infoMsg
  have hg := rdAt_lt h
  have hpos := numR_pos 1 s
  have hb1 := below_more (Below.refl _ w) (.cells #[.int .i64 0, .int .i64 0, .int .i64 0, .int .i64 0, .int .i64 0, .int .i64 0, .int .i64 0, .bool false, .slice none 0 0, .int .i64 0, .int .i64 0, .slice none 0 0, .string ⟨#[]⟩] 27)
  have HNM := Lib.hid (rnumber_any (rdAt_below h hb1) 1 (by decide))
  have HRR := Lib.hid (Rw.alloc w 27 #[.int .i64 0, .int .i64 0, .int .i64 0, .int .i64 0, .int .i64 0, .int .i64 0, .int .i64 0, .bool false, .slice none 0 0, .int .i64 0, .int .i64 0, .slice none 0 0, .string ⟨#[]⟩] (Nat.zero_le _))
  obtain ⟨x, hx⟩ : ∃ x, x = numR 1 s := ⟨_, rfl⟩
  rw [← hx] at HNM hpos hk6
  obtain ⟨a, ha⟩ : ∃ a, a = numR 8 x.2 := ⟨_, rfl⟩
  obtain ⟨b, hb⟩ : ∃ b, b = numR 8 a.2 := ⟨_, rfl⟩
  obtain ⟨c, hc⟩ : ∃ c, c = numR 8 b.2 := ⟨_, rfl⟩
  have HMS := Lib.hid (msgR_of (q0 := c.2) hx ha hb hc rfl)
  have HI3 : Hid (([a.1, b.1, c.1], c.2) = intsR 3 x.2) := Lib.hid (by rw [intsR_three, ← ha, ← hb, ← hc])
  obtain ⟨y, hy⟩ : ∃ y, y = msgR s := ⟨_, rfl⟩
  rw [← hy] at HMS ⊢
  obtain ⟨x1, x2⟩ := x
  dsimp only at HMS HI3 hpos hk6
  obtain ⟨K, rfl⟩ := Int.eq_ofNat_of_zero_le hpos
  have HG := Lib.hid hg
  have HB := Lib.hid h.1
  have HB1 := Lib.hid hb1
  have HK6 := Lib.hid hk6
  clear h hg hpos hb1 hx ha hb hc hy hk6
  go_enter Try.func23, Try.ntmps23
  go_wp2_with (first | (refine wpList_alloc_z rfl 27 rfl #[.int .i64 0, .int .i64 0, .int .i64 0, .int .i64 0, .int .i64 0, .int .i64 0, .int .i64 0, .bool false, .slice none 0 0, .int .i64 0, .int .i64 0, .slice none 0 0, .string ⟨#[]⟩] hz ?_) | fail)
  refine (HNM.out).mono ?_
  rintro e w2 ⟨rfl, hv2⟩
  dsimp only at hv2 ⊢
  have hs2 : w.heap.size + 1 ≤ w2.heap.size := by have := hv2.2.size; simpa using this
  have hb3 := below_more (Below.refl _ w2) (.cells #[.int .i64 K, .int .i64 0, .int .i64 0, .int .i64 0, .int .i64 0, .int .i64 0, .int .i64 0, .bool false, .slice none 0 0, .int .i64 0, .int .i64 0, .slice none 0 0, .string ⟨#[]⟩] 27)
  have hr3 : Rw (w2.alloc (.cells #[.int .i64 K, .int .i64 0, .int .i64 0, .int .i64 0, .int .i64 0, .int .i64 0, .int .i64 0, .bool false, .slice none 0 0, .int .i64 0, .int .i64 0, .slice none 0 0, .string ⟨#[]⟩] 27)) 0 w2.heap.size 27 [.int .i64 K, .int .i64 0, .int .i64 0, .int .i64 0, .int .i64 0, .int .i64 0, .int .i64 0, .bool false, .slice none 0 0, .int .i64 0, .int .i64 0, .slice none 0 0, .string ⟨#[]⟩] := Rw.alloc w2 _ _ (Nat.zero_le _)
  have hrr3 : Rw (w2.alloc (.cells #[.int .i64 K, .int .i64 0, .int .i64 0, .int .i64 0, .int .i64 0, .int .i64 0, .int .i64 0, .bool false, .slice none 0 0, .int .i64 0, .int .i64 0, .slice none 0 0, .string ⟨#[]⟩] 27)) 0 w.heap.size 27 [.int .i64 0, .int .i64 0, .int .i64 0, .int .i64 0, .int .i64 0, .int .i64 0, .int .i64 0, .bool false, .slice none 0 0, .int .i64 0, .int .i64 0, .slice none 0 0, .string ⟨#[]⟩] := Rw.below (rw_kept HRR.out hv2.2 (by have := HG.out; omega)) hb3
  have hk3 : Kept (fun k => k = g) w (w2.alloc (.cells #[.int .i64 K, .int .i64 0, .int .i64 0, .int .i64 0, .int .i64 0, .int .i64 0, .int .i64 0, .bool false, .slice none 0 0, .int .i64 0, .int .i64 0, .slice none 0 0, .string ⟨#[]⟩] 27)) := kept_then (G := fun _ => False) (kept_then (kept_below HB1.out) hv2.2 (fun x hx => .inl hx)) (kept_below hb3) (fun _ h => h.elim)
  have HNE : Hid (w2.heap.size ≠ g) := Lib.hid (by have := HG.out; omega)
  have HBM : Hid (B ≤ w2.heap.size) := Lib.hid (by have := HG.out; have := HB.out; omega)
  have HNR : Hid (w.heap.size ≠ g) := Lib.hid (by have := HG.out; omega)
  have HBR : Hid (B ≤ w.heap.size) := Lib.hid (by have := HG.out; have := HB.out; omega)
  have HRM : Hid (w.heap.size ≠ w2.heap.size) := Lib.hid (by omega)
  have HWM : Hid (w.heap.size ≤ w2.heap.size) := Lib.hid (by omega)
  have HPT := Lib.hid (rptrs_new (rdAt_below hv2.1 hb3) hr3 HBM.out HNE.out (js := [1, 2, 3]) (n := 3) rfl (fun j hj => by simp at hj; rcases hj with rfl | rfl | rfl <;> simp) (by decide) (ps := #[.pointer (some ⟨w2.heap.size, 1, none⟩), .pointer (some ⟨w2.heap.size, 2, none⟩), .pointer (some ⟨w2.heap.size, 3, none⟩)]) rfl (p := w2.heap.size + 1) (by simp) HI3.out)
  have HK3 := Lib.hid hk3
  have HRR3 := Lib.hid hrr3
  clear hv2 hs2 hb3 hr3 hrr3 hk3 HNM
  go_wp2_with (first | (refine wpList_alloc_z rfl 27 rfl #[.int .i64 0, .int .i64 0, .int .i64 0, .int .i64 0, .int .i64 0, .int .i64 0, .int .i64 0, .bool false, .slice none 0 0, .int .i64 0, .int .i64 0, .slice none 0 0, .string ⟨#[]⟩] hz ?_) | fail)
  refine (HPT.out).mono ?_
  rintro e w5 ⟨rfl, hrd5, hrm5, hk5⟩
  dsimp only [setL, List.set] at hrm5 hrd5
  have hrr5 := rw_kept HRR3.out hk5 (fun e => e.elim HNR.out HRM.out)
  have hkk5 := kept_gm HK3.out hk5 HWM.out
  have x0 : w5.cell? ⟨w2.heap.size, 0, none⟩ = some (.int .i64 K) := Rw.cell hrm5 rfl
  have HRD := Lib.hid hrd5
  have HM := Lib.hid hrm5
  have HR := Lib.hid hrr5
  have HK := Lib.hid hkk5
  clear hrd5 hrm5 hk5 hrr5 hkk5 HPT HI3
  have hk6 := HK6.out
  obtain ⟨d, hd⟩ : ∃ d, d = yesR c.2 := ⟨_, rfl⟩
  obtain ⟨e, he⟩ : ∃ e, e = numR 8 d.2 := ⟨_, rfl⟩
  have HQ := Lib.hid (HMS.out.trans (bodyR4 hk6 hd he))
  have HEE := Lib.hid he
  have HYE := Lib.hid (ryes_any HRD.out)
  rw [← hd] at HYE
  have q1 : ((K : Int) == 1) = false := by rw [beq_eq_false_iff_ne]; omega
  have q2 : ((K : Int) == 2) = false := by rw [beq_eq_false_iff_ne]; omega
  have q3 : ((K : Int) == 3) = false := by rw [beq_eq_false_iff_ne]; omega
  have q4 : ((K : Int) == 4) = true := by rw [beq_iff_eq]; omega
  clear hk6 hd he
  go_wp2_with fail
  refine (HYE.out).mono ?_
  rintro e wy ⟨rfl, hv⟩
  have hrm := rw_kept HM.out hv.2 HNE.out
  have hrr := rw_kept HR.out hv.2 HNR.out
  have xx := Rw.cell hrm (j := 7) rfl
  have ff := Rw.free hrm 7
  have hrm2 := Rw.stored hrm 7 (.bool d.1)
  have hrr2 := Rw.other hrr HRM.out.symm 7 (.bool d.1)
  have hrd2 := rd_put hv.1 HBM.out HNE.out 7 (.bool d.1)
  have hkk2 : Kept (fun k => k = g) w (wy.setCell ⟨w2.heap.size, 7, none⟩ (.bool d.1)) := kept_put (kept_trans HK.out hv.2) (.inr HWM.out) 7 _
  obtain ⟨w7, hwn⟩ : ∃ wn, wn = wy.setCell ⟨w2.heap.size, 7, none⟩ (.bool d.1) := ⟨_, rfl⟩
  rw [← hwn] at hrm2 hrr2 hrd2 hkk2
  dsimp only [List.set] at hrm2
  clear HRD HM HR HK HYE
  have HRD := Lib.hid hrd2
  have HM := Lib.hid hrm2
  have HR := Lib.hid hrr2
  have HK := Lib.hid hkk2
  have HWN := Lib.hid hwn
  clear hv hrm hrr hrm2 hrr2 hrd2 hkk2 hwn
  have he := HEE.out
  have HPT := Lib.hid (rptrs_new HRD.out HM.out HBM.out HNE.out (js := [4]) (n := 1) rfl (fun j hj => by simp at hj; subst hj <;> simp) (by decide) (ps := #[.pointer (some ⟨w2.heap.size, 4, none⟩)]) rfl (p := wy.heap.size) (by rw [HWN.out]; simp) (r := ([e.1], e.2)) (by rw [intsR_one, ← he]))
  clear he
  go_wp2_with fail
  rw [← HWN.out]
  refine (HPT.out).mono ?_
  rintro e w9 ⟨rfl, hrd, hrm, hk⟩
  dsimp only [setL, List.set] at hrm hrd
  have hrr := rw_kept HR.out hk (fun e => e.elim HNR.out HRM.out)
  have hkk := kept_gm HK.out hk HWM.out
  clear HRD HM HR HK HPT
  have HRD := Lib.hid hrd
  have HM := Lib.hid hrm
  have HR := Lib.hid hrr
  have HK := Lib.hid hkk
  clear hrd hrm hk hrr hkk
  clear x0
  obtain ⟨hrdv, hend⟩ := md_end HRD.out HK.out HR.out HBR.out HNR.out (Nat.le_refl _) (xs := [.int .i64 K, .int .i64 a.1, .int .i64 b.1, .int .i64 c.1, .int .i64 e.1, .int .i64 0, .int .i64 0, .bool d.1, .slice none 0 0, .int .i64 0, .int .i64 0, .slice none 0 0, .string ⟨#[]⟩]) rfl
  have HRDV := Lib.hid hrdv
  have HEND := Lib.hid hend
  clear hrdv hend
  go_wp2_with (first | (refine wpList_load_mid rfl 27 _ rfl w2.heap.size 0 rfl [.int .i64 K, .int .i64 a.1, .int .i64 b.1, .int .i64 c.1, .int .i64 e.1, .int .i64 0, .int .i64 0, .bool d.1, .slice none 0 0, .int .i64 0, .int .i64 0, .slice none 0 0, .string ⟨#[]⟩] _ (Rw.whole HM.out) Try.underlying27 rfl Try.sizeMsg ?_) | (refine wpList_store_mid rfl 27 _ _ rfl w.heap.size 0 #[.int .i64 K, .int .i64 a.1, .int .i64 b.1, .int .i64 c.1, .int .i64 e.1, .int .i64 0, .int .i64 0, .bool d.1, .slice none 0 0, .int .i64 0, .int .i64 0, .slice none 0 0, .string ⟨#[]⟩] rfl rfl (Rw.there HR.out 0 _ (by simp)) Try.sizeMsg (msg_one _ _ _ _ _ _ _ _ _ _ _ _ _ _ _ _ _) ?_) | fail)
  refine bodyPost_ret (v := .agg #[.int .i64 K, .int .i64 a.1, .int .i64 b.1, .int .i64 c.1, .int .i64 e.1, .int .i64 0, .int .i64 0, .bool d.1, .slice none 0 0, .int .i64 0, .int .i64 0, .slice none 0 0, .string ⟨#[]⟩]) ?_ rfl ⟨.slice none 0 0, .slice none 0 0, by rw [HQ.out]; rfl, by rw [HQ.out]; exact ⟨ownE_nil _, by simp, World.ownsRow_nil _ _ _ _, by simp [zeroSn]⟩, by rw [HQ.out]; exact HRDV.out⟩
  exact results_cell_row rfl _ _ w.heap.size _ _ _ _ rfl HEND.out.2 Try.underlying27 rfl Try.sizeMsg

end Go.Proofs.Ytpbdilbimpnmjaa
