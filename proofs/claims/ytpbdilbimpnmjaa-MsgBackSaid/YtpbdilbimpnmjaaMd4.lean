/- Contracts: msg: the reader: a snapshot, entries. -/
import Derived.BigRegion
import Derived.Deep.RegionHeld3
import Derived.Deep.AppendLies
import Derived.Test.YtpbdilbimpnmjaaProg
import Derived.Test.YtpbdilbimpnmjaaKit
import Derived.Test.YtpbdilbimpnmjaaRow
import Derived.Test.YtpbdilbimpnmjaaCod7
import Derived.Test.YtpbdilbimpnmjaaFrm4
import Derived.Test.YtpbdilbimpnmjaaFp
import Derived.Test.YtpbdilbimpnmjaaKp0
import Derived.Test.YtpbdilbimpnmjaaKp1
import Derived.Test.YtpbdilbimpnmjaaMg0
import Derived.Test.YtpbdilbimpnmjaaMd1
namespace Go.Proofs.Ytpbdilbimpnmjaa
open Go.RowKit Go.Proofs

theorem entsR_snoc : ∀ (i : Nat) (s : List UInt8 × Bool), entsR (i + 1) s = ((entsR i s).1 ++ [(entR1 (entsR i s).2).1], (entR1 (entsR i s).2).2)
  | 0, s => by simp only [entsR, List.nil_append]
  | i + 1, s => by
    have ih := entsR_snoc i (entR1 s).2
    rw [entsR, ih]
    simp only [entsR, List.cons_append]

theorem entsR_len : ∀ (i : Nat) (s : List UInt8 × Bool), (entsR i s).1.length = i
  | 0, _ => rfl
  | i + 1, s => by rw [entsR, List.length_cons, entsR_len i]

theorem snpR_full (s : List UInt8 × Bool) : snpR s = (⟨(numR 8 s).1, (numR 8 (numR 8 s).2).1, (lstR (numR 8 (numR 8 s).2).2).1, ⟨(txtR (lstR (numR 8 (numR 8 s).2).2).2).1.toArray⟩⟩, (txtR (lstR (numR 8 (numR 8 s).2).2).2).2) := Prod.ext (snpR_eq s) (by unfold snpR; rfl)

def SnapV (w w' : World) (B g : Nat) (e : Ending) (q : SnpM × List UInt8 × Bool) : Prop := ∃ u, e = .returned (.agg #[.int .i64 q.1.ix, .int .i64 q.1.tm, u, .string q.1.d]) ∧ w'.ownsRow w.heap.size 3 1 u q.1.ms.length (q.1.ms.map kiV) ∧ RdV w w' B g q.2

theorem kept_new {w w' : World} {F G : Nat → Prop} (h : Kept G w w') (hG : ∀ k, G k → F k ∨ w.heap.size ≤ k) : Kept F w w' := kept_mono h hG

theorem intsR_two (s : List UInt8 × Bool) : intsR 2 s = ([(numR 8 s).1, (numR 8 (numR 8 s).2).1], (numR 8 (numR 8 s).2).2) := rfl

theorem intsR_three (s : List UInt8 × Bool) : intsR 3 s = ([(numR 8 s).1, (numR 8 (numR 8 s).2).1, (numR 8 (numR 8 (numR 8 s).2).2).1], (numR 8 (numR 8 (numR 8 s).2).2).2) := by simp only [intsR]

theorem rd_put {w : World} {B g gm : Nat} {s : List UInt8 × Bool} (h : RdAt w B g s) (hB : B ≤ gm) (hne : gm ≠ g) (j : Nat) (u : Value) : RdAt (w.setCell ⟨gm, j, none⟩ u) B g s := rdAt_kept h hB hne (kept_put (F := fun k => k = gm) (kept_refl _ _) (.inl rfl) j u)

set_option maxRecDepth 100000 in
set_option maxHeartbeats 4000000 in
theorem rsnap_any {w : World} {B g : Nat} {s : List UInt8 × Bool} (h : RdAt w B g s) :
    Calls Try.prog 45 #[.pointer (some ⟨g, 0, none⟩)] w fun e w' => SnapV w w' B g e (snpR s) := by
  have hz := zero_cells Try.infoSnap
  have hg := rdAt_lt h
  have hB := h.1
  have HQ : Hid (snpR s = (⟨(numR 8 s).1, (numR 8 (numR 8 s).2).1, (lstR (numR 8 (numR 8 s).2).2).1, ⟨(txtR (lstR (numR 8 (numR 8 s).2).2).2).1.toArray⟩⟩, (txtR (lstR (numR 8 (numR 8 s).2).2).2).2)) := Lib.hid (snpR_full s)
  have HI2 : Hid (intsR 2 s = ([(numR 8 s).1, (numR 8 (numR 8 s).2).1], (numR 8 (numR 8 s).2).2)) := Lib.hid (intsR_two s)
  obtain ⟨q1, hq1⟩ : ∃ q1, q1 = numR 8 s := ⟨_, rfl⟩
  rw [← hq1] at HQ HI2
  obtain ⟨q2, hq2⟩ : ∃ q2, q2 = numR 8 q1.2 := ⟨_, rfl⟩
  rw [← hq2] at HQ HI2
  obtain ⟨q3, hq3⟩ : ∃ q3, q3 = lstR q2.2 := ⟨_, rfl⟩
  rw [← hq3] at HQ
  obtain ⟨q4, hq4⟩ : ∃ q4, q4 = txtR q3.2 := ⟨_, rfl⟩
  rw [← hq4] at HQ
  have HQ3 := Lib.hid hq3
  have HQ4 := Lib.hid hq4
  obtain ⟨y, hy⟩ : ∃ y, y = snpR s := ⟨_, rfl⟩
  rw [← hy] at HQ ⊢
  obtain ⟨gR, hgR⟩ : ∃ gR, gR = w.heap.size := ⟨_, rfl⟩
  obtain ⟨gm, hgm⟩ : ∃ gm, gm = w.heap.size + 1 := ⟨_, rfl⟩
  have hb1 := below_more (Below.refl _ w) (.cells #[.int .i64 0, .int .i64 0, .slice none 0 0, .string ⟨#[]⟩] 25)
  have hb2 := below_more hb1 (.cells #[.int .i64 0, .int .i64 0, .slice none 0 0, .string ⟨#[]⟩] 25)
  have hr1 : Rw ((w.alloc (.cells #[.int .i64 0, .int .i64 0, .slice none 0 0, .string ⟨#[]⟩] 25)).alloc (.cells #[.int .i64 0, .int .i64 0, .slice none 0 0, .string ⟨#[]⟩] 25)) 0 gm 25 [.int .i64 0, .int .i64 0, .slice none 0 0, .string ⟨#[]⟩] := by
    have := Rw.alloc (w.alloc (.cells #[.int .i64 0, .int .i64 0, .slice none 0 0, .string ⟨#[]⟩] 25)) 25 #[.int .i64 0, .int .i64 0, .slice none 0 0, .string ⟨#[]⟩] (Nat.zero_le _)
    rw [hgm]; simpa using this
  have hrR : Rw ((w.alloc (.cells #[.int .i64 0, .int .i64 0, .slice none 0 0, .string ⟨#[]⟩] 25)).alloc (.cells #[.int .i64 0, .int .i64 0, .slice none 0 0, .string ⟨#[]⟩] 25)) 0 gR 25 [.int .i64 0, .int .i64 0, .slice none 0 0, .string ⟨#[]⟩] := by
    rw [hgR]; exact Rw.more (Rw.alloc w _ _ (Nat.zero_le _)) _
  obtain ⟨w2, hw2⟩ : ∃ w2, w2 = (w.alloc (.cells #[.int .i64 0, .int .i64 0, .slice none 0 0, .string ⟨#[]⟩] 25)).alloc (.cells #[.int .i64 0, .int .i64 0, .slice none 0 0, .string ⟨#[]⟩] 25) := ⟨_, rfl⟩
  have hs2 : w2.heap.size = w.heap.size + 1 + 1 := by rw [hw2]; simp
  rw [← hw2] at hb2 hr1 hrR
  have hp3 := below_more (Below.refl _ w2) (.cells #[.pointer (some ⟨gm, 0, none⟩), .pointer (some ⟨gm, 1, none⟩)] 81)
  have hpt := (rptrs_any (c := 2) (rdAt_below h (below_then hb2 hp3)) (Rw.below hr1 hp3) (gm := gm) (b := w2.heap.size) (o := 0) (n := 2) (js := [0, 1]) (by omega) (by omega) rfl (fun j hj => by simp at hj; rcases hj with rfl | rfl <;> simp) (by omega) (by omega) (fun i j hij => by
    rw [Nat.zero_add, cell_of_row _ _ _ _ 81 (0, 0) (heap_alloc_new w2 _)]
    match i, hij with
    | 0, hij => simp at hij; subst hij; rfl
    | 1, hij => simp at hij; subst hij; rfl
    | i + 2, hij => simp at hij) (by decide))
  rw [HI2.out] at hpt
  have HK3 := Lib.hid (below_then hb2 hp3)
  have HRR := Lib.hid (Rw.below hrR hp3)
  have HG := Lib.hid hg
  have HB := Lib.hid hB
  rw [hs2] at hpt
  have HBM : Hid (B ≤ gm) := Lib.hid (by omega)
  have HNM : Hid (gm ≠ g) := Lib.hid (by omega)
  have HBR : Hid (B ≤ gR) := Lib.hid (by omega)
  have HNR : Hid (gR ≠ g) := Lib.hid (by omega)
  have HRM : Hid (gR ≠ gm) := Lib.hid (by omega)
  subst hw2 hgm hgR
  have HPT := Lib.hid hpt
  clear h hg hB hy hb1 hb2 hr1 hrR hs2 hp3 hpt hq1 hq2 hq3 hq4
  go_enter Try.func45, Try.ntmps45
  go_wp2_with (first | (refine wpList_alloc_z rfl 25 rfl #[.int .i64 0, .int .i64 0, .slice none 0 0, .string ⟨#[]⟩] hz ?_) | fail)
  refine (HPT.out).mono ?_
  rintro e w4 ⟨rfl, hrd4, hrm4, hk4⟩
  dsimp only [setL, List.set] at hrm4
  have hrr4 := rw_kept HRR.out hk4 (fun e => e.elim HNR.out HRM.out)
  have HLI := Lib.hid (rlist_any hrd4)
  rw [← HQ3.out] at HLI
  have HK4 : Hid (Kept (fun k => k = g) w w4) := Lib.hid (kept_then (kept_below HK3.out) hk4 (fun x hx => hx.elim .inl (fun e => .inr (by omega))))
  have HM4 := Lib.hid hrm4
  have HR4 := Lib.hid hrr4
  clear hrd4 hrm4 hrr4 hk4 HPT
  go_wp2_with fail
  refine (HLI.out).mono ?_
  rintro e w5 ⟨u, rfl, hu5, hv5⟩
  obtain ⟨ua, uc, rfl⟩ := own_len hu5
  have hrm5 := rw_kept HM4.out hv5.2 HNM.out
  have hrr5 := rw_kept HR4.out hv5.2 HNR.out
  have c5 := Rw.cell hrm5 (j := 2) rfl
  have f5 := Rw.free hrm5 2
  have hrm6 := Rw.stored hrm5 2 (.slice ua q3.1.length uc)
  have hrr6 := Rw.other hrr5 HRM.out.symm 2 (.slice ua q3.1.length uc)
  have hrd6 := rd_put hv5.1 HBM.out HNM.out 2 (.slice ua q3.1.length uc)
  have HU6 := Lib.hid (own_store (own_mono hu5 HK4.out.size) hrm5 (by decide) 2 (.slice ua q3.1.length uc))
  obtain ⟨w6, hw6⟩ : ∃ w6, w6 = w5.setCell ⟨w.heap.size + 1, 2, none⟩ (.slice ua q3.1.length uc) := ⟨_, rfl⟩
  have HK6 : Hid (Kept (fun k => k = g) w w6) := Lib.hid (by rw [hw6]; exact kept_put (kept_trans HK4.out hv5.2) (.inr (by omega)) 2 _)
  rw [← hw6] at hrm6 hrr6 hrd6 HU6
  have HTX := Lib.hid (rtext_any2 hrd6)
  rw [← HQ4.out] at HTX
  have HM6 := Lib.hid hrm6
  have HR6 := Lib.hid hrr6
  have HW6 := Lib.hid hw6
  clear hu5 hv5 hrm5 hrr5 hrm6 hrr6 hrd6 hw6 HLI
  go_wp2_with fail
  rw [← HW6.out]
  refine (HTX.out).mono ?_
  rintro e w7 ⟨rfl, hv7⟩
  have hrm7 := rw_kept HM6.out hv7.2 HNM.out
  have hrr7 := rw_kept HR6.out hv7.2 HNR.out
  have c70 : w7.cell? ⟨w.heap.size + 1, 0, none⟩ = some (.int .i64 q1.1) := Rw.cell hrm7 rfl
  have c71 : w7.cell? ⟨w.heap.size + 1, 1, none⟩ = some (.int .i64 q2.1) := Rw.cell hrm7 rfl
  have c72 : w7.cell? ⟨w.heap.size + 1, 2, none⟩ = some (.slice ua q3.1.length uc) := Rw.cell hrm7 rfl
  have c73 := Rw.cell hrm7 (j := 3) rfl
  have f7 := Rw.free hrm7 3
  have hrm8 := Rw.stored hrm7 3 (.string ⟨q4.1.toArray⟩)
  have hrr8 := Rw.other hrr7 HRM.out.symm 3 (.string ⟨q4.1.toArray⟩)
  have hrd8 := rd_put hv7.1 HBM.out HNM.out 3 (.string ⟨q4.1.toArray⟩)
  have hu8 := own_store (own_off HU6.out HG.out hv7.2) hrm7 (by decide) 3 (.string ⟨q4.1.toArray⟩)
  obtain ⟨w8, hw8⟩ : ∃ w8, w8 = w7.setCell ⟨w.heap.size + 1, 3, none⟩ (.string ⟨q4.1.toArray⟩) := ⟨_, rfl⟩
  have hk8 : Kept (fun k => k = g) w w8 := by rw [hw8]; exact kept_put (kept_trans HK6.out hv7.2) (.inr (by omega)) 3 _
  rw [← hw8] at hrm8 hrr8 hrd8 hu8
  have HM8 : Hid (Rw w8 0 (w.heap.size + 1) 25 [.int .i64 q1.1, .int .i64 q2.1, .slice ua q3.1.length uc, .string ⟨q4.1.toArray⟩]) := Lib.hid hrm8
  have HR8 := Lib.hid hrr8
  have hend := Rw.storedAll hrr8 [.int .i64 q1.1, .int .i64 q2.1, .slice ua q3.1.length uc, .string ⟨q4.1.toArray⟩] rfl
  have hk9 : Kept (fun k => k = w.heap.size) w8 (w8.setCells w.heap.size 0 [.int .i64 q1.1, .int .i64 q2.1, .slice ua q3.1.length uc, .string ⟨q4.1.toArray⟩]) := kept_puts (F := fun k => k = w.heap.size) (.inl rfl) _ 0 (kept_refl _ _)
  have HEND := Lib.hid hend
  have HU9 := Lib.hid (own_stores hu8 hrr8 (by decide) 0 [.int .i64 q1.1, .int .i64 q2.1, .slice ua q3.1.length uc, .string ⟨q4.1.toArray⟩])
  have HV9 : Hid (RdV w (w8.setCells w.heap.size 0 [.int .i64 q1.1, .int .i64 q2.1, .slice ua q3.1.length uc, .string ⟨q4.1.toArray⟩]) B g q4.2) := Lib.hid ⟨rdAt_kept hrd8 HBR.out HNR.out hk9, kept_then hk8 hk9 (fun x hx => .inr (by omega))⟩
  have HW8 := Lib.hid hw8
  clear hv7 hrm7 hrr7 hrm8 hrr8 hrd8 hu8 hw8 hk8 hend hk9 c70 c71 c72 HTX
  go_wp2_with (first | (rw [← HW8.out]; refine wpList_load_mid rfl 25 _ rfl (w.heap.size + 1) 0 rfl [.int .i64 q1.1, .int .i64 q2.1, .slice ua q3.1.length uc, .string ⟨q4.1.toArray⟩] _ (Rw.whole HM8.out) Try.underlying25 rfl Try.sizeSnap ?_) | (refine wpList_store_mid rfl 25 _ _ rfl w.heap.size 0 #[.int .i64 q1.1, .int .i64 q2.1, .slice ua q3.1.length uc, .string ⟨q4.1.toArray⟩] rfl rfl (Rw.there HR8.out 0 _ (by simp)) Try.sizeSnap (snp_one _ _ _ _ _ _) ?_) | fail)
  refine bodyPost_ret (v := .agg #[.int .i64 q1.1, .int .i64 q2.1, .slice ua q3.1.length uc, .string ⟨q4.1.toArray⟩]) ?_ rfl ⟨.slice ua q3.1.length uc, by rw [HQ.out], by rw [HQ.out]; exact HU9.out, by rw [HQ.out]; exact HV9.out⟩
  exact results_cell_row rfl _ _ w.heap.size _ _ _ _ rfl HEND.out.2 Try.underlying25 rfl Try.sizeSnap

end Go.Proofs.Ytpbdilbimpnmjaa
