/- Contracts: the reference: snapshots and messages held against each other. -/
import Derived.BigRegion
import Derived.Deep.RegionHeld3
import Derived.Test.YthpljpbiamjmaaaProg
import Derived.Test.YthpljpbiamjmaaaKit
import Derived.Test.YthpljpbiamjmaaaRow
import Derived.Test.YthpljpbiamjmaaaCod7
import Derived.Test.YthpljpbiamjmaaaKp0
import Derived.Test.YthpljpbiamjmaaaMg0
import Derived.Test.YthpljpbiamjmaaaMg5
import Derived.Test.YthpljpbiamjmaaaMr1
namespace Go.Proofs.Ythpljpbiamjmaaa
open Go.RowKit Go.Proofs

set_option maxRecDepth 100000 in
set_option maxHeartbeats 4000000 in
theorem sameSnap_any (s u : SnpM) {a1 a2 : Option Addr} {k1 k2 : Nat} {w : World} (h1 : IntsAt w (.slice a1 s.ms.length k1) s.ms) (h2 : IntsAt w (.slice a2 u.ms.length k2) u.ms) :
    Calls Try.prog 30 #[.agg #[.int .i64 s.ix, .int .i64 s.tm, .slice a1 s.ms.length k1, .string s.d], .agg #[.int .i64 u.ix, .int .i64 u.tm, .slice a2 u.ms.length k2, .string u.d]] w fun e w' => RetS e s u ∧ Below w.heap.size w w' := by
  have HR : Hid (∀ r, (r = true ↔ (s.ix = u.ix ∧ s.tm = u.tm ∧ s.d = u.d ∧ s.ms = u.ms)) → SameR r s u) := Lib.hid (fun r hr => by
    obtain ⟨a, b, c, d⟩ := s
    obtain ⟨a2, b2, c2, d2⟩ := u
    unfold SameR
    rw [hr]
    simp only [SnpM.mk.injEq]
    constructor
    · rintro ⟨h1, h2, h3, h4⟩; exact ⟨h1, h2, h4, h3⟩
    · rintro ⟨h1, h2, h3, h4⟩; exact ⟨h1, h2, h4, h3⟩)
  obtain ⟨xi, xt, xm, xd⟩ := s
  obtain ⟨yi, yt, ym, yd⟩ := u
  dsimp only at h1 h2 HR ⊢
  obtain ⟨M, hM⟩ : ∃ M, M = xm.length := ⟨_, rfl⟩
  obtain ⟨M2, hM2⟩ : ∃ M, M = ym.length := ⟨_, rfl⟩
  rw [← hM] at h1 ⊢
  rw [← hM2] at h2 ⊢
  have hb := below_more (below_more (Below.refl _ w) (.cells #[.int .i64 xi, .int .i64 xt, .slice a1 M k1, .string xd] 25)) (.cells #[.int .i64 yi, .int .i64 yt, .slice a2 M2 k2, .string yd] 25)
  have HSI := Lib.hid (sameInts_any xm ym _ _ _ (intsAt_below h1 hb) (intsAt_below h2 hb))
  have HB := Lib.hid hb
  obtain ⟨mb, hmb⟩ : ∃ mb, mb = (xm == ym) := ⟨_, rfl⟩
  rw [← hmb] at HSI
  have HMB := Lib.hid hmb
  clear h1 h2 hM hM2 hb hmb
  by_cases g0 : xi = yi
  case neg =>
    have q0 : (xi == yi) = false := by rw [beq_eq_false_iff_ne]; exact g0
    have HF := Lib.hid (HR.out false ⟨fun h => absurd h (by decide), fun h => absurd h.1 g0⟩)
    clear g0
    go_enter Try.func30, Try.ntmps30
    go_wp2_with fail
    go_ret
    exact ⟨⟨_, rfl, HF.out⟩, HB.out⟩
  have q0 : (xi == yi) = true := by rw [beq_iff_eq]; exact g0
  have G0 := Lib.hid g0
  clear g0
  by_cases g1 : xt = yt
  case neg =>
    have q1 : (xt == yt) = false := by rw [beq_eq_false_iff_ne]; exact g1
    have HF := Lib.hid (HR.out false ⟨fun h => absurd h (by decide), fun h => absurd h.2.1 g1⟩)
    clear g1
    go_enter Try.func30, Try.ntmps30
    go_wp2_with fail
    go_ret
    exact ⟨⟨_, rfl, HF.out⟩, HB.out⟩
  have q1 : (xt == yt) = true := by rw [beq_iff_eq]; exact g1
  have G1 := Lib.hid g1
  clear g1
  by_cases g2 : xd = yd
  case neg =>
    have q2 : (xd.toList == yd.toList) = false := by rw [beq_eq_false_iff_ne]; exact fun e => g2 ((str_iff _ _).1 e)
    have HF := Lib.hid (HR.out false ⟨fun h => absurd h (by decide), fun h => absurd h.2.2.1 g2⟩)
    clear g2
    go_enter Try.func30, Try.ntmps30
    go_wp2_with fail
    go_ret
    exact ⟨⟨_, rfl, HF.out⟩, HB.out⟩
  have q2 : (xd.toList == yd.toList) = true := by rw [beq_iff_eq]; exact (str_iff _ _).2 g2
  have G2 := Lib.hid g2
  clear g2
  go_enter Try.func30, Try.ntmps30
  go_wp2_with fail
  refine (HSI.out).mono ?_
  rintro e w2 ⟨rfl, hd2⟩
  have HB2 := Lib.hid (below_draws HB.out hd2)
  clear hd2
  have HF := Lib.hid (HR.out mb (by rw [HMB.out, beq_iff_eq]; exact ⟨fun h => ⟨G0.out, G1.out, G2.out, h⟩, fun h => h.2.2.2⟩))
  go_wp2_with fail
  go_ret
  exact ⟨⟨_, rfl, HF.out⟩, HB2.out⟩

set_option maxRecDepth 100000 in
set_option maxHeartbeats 8000000 in
theorem sameMsg_any (a b : MsgM) (h4 : a.kd = b.kd ∧ a.fr = b.fr ∧ a.to = b.to ∧ a.tm = b.tm) {ev fv mv nv : Value} {w : World} (h1 : MsgAt w ev mv a) (h2 : MsgAt w fv nv b) :
    Calls Try.prog 15 #[msgV a ev mv, msgV b fv nv] w fun e w' => RetS e a b ∧ Below w.heap.size w w' := by
  obtain ⟨he1, hl1, hm1⟩ := h1
  obtain ⟨he2, _, hm2⟩ := h2
  obtain ⟨ea, ec, rfl, _⟩ := id he1
  obtain ⟨eb, ed, rfl, _⟩ := id he2
  obtain ⟨ma, mc, rfl⟩ := intsAt_len hm1
  obtain ⟨mb, md, rfl⟩ := intsAt_len hm2
  unfold msgV
  have HR : Hid (∀ r, (r = true ↔ (a.ix = b.ix ∧ a.lt = b.lt ∧ a.cm = b.cm ∧ a.yes = b.yes ∧ a.es = b.es ∧ a.sn = b.sn)) → SameR r a b) := Lib.hid (fun r hr => by
    obtain ⟨a1, a2, a3, a4, a5, a6, a7, a8, a9, a0⟩ := a
    obtain ⟨b1, b2, b3, b4, b5, b6, b7, b8, b9, b0⟩ := b
    obtain ⟨k1, k2, k3, k4⟩ := h4
    dsimp only at k1 k2 k3 k4 hr
    subst k1 k2 k3 k4
    unfold SameR
    rw [hr]
    simp only [MsgM.mk.injEq, true_and])
  obtain ⟨kd, fr, tq, tm, ix, lt, cm, yes, es, sn⟩ := a
  obtain ⟨kd2, fr2, tq2, tm2, zix, zlt, zcm, zyes, zes, zsn⟩ := b
  obtain ⟨k1, k2, k3, k4⟩ := h4
  dsimp only at k1 k2 k3 k4 he1 hl1 hm1 he2 hm2 HR ⊢
  subst k1 k2 k3 k4
  have HSN := fun W h1 h2 => Lib.hid (sameSnap_any sn zsn (a1 := ma) (a2 := mb) (k1 := mc) (k2 := md) (w := W) h1 h2)
  have HI1 := Lib.hid (fun W (hb : Below w.heap.size w W) => intsAt_below hm1 hb)
  have HI2 := Lib.hid (fun W (hb : Below w.heap.size w W) => intsAt_below hm2 hb)
  have HSE := Lib.hid (fun W (hb : Below w.heap.size w W) => sameEntries_any es zes _ _ _ (entsAt_below he1 hb) (entsAt_below he2 hb) hl1)
  obtain ⟨si, st, sm, sd⟩ := sn
  obtain ⟨zsi, zst, zsm, zsd⟩ := zsn
  dsimp only at HSN HI1 HI2 ⊢
  obtain ⟨n, hn⟩ : ∃ n, n = es.length := ⟨_, rfl⟩
  obtain ⟨n2, hn2⟩ : ∃ n, n = zes.length := ⟨_, rfl⟩
  obtain ⟨M, hM⟩ : ∃ M, M = sm.length := ⟨_, rfl⟩
  obtain ⟨M2, hM2⟩ : ∃ M, M = zsm.length := ⟨_, rfl⟩
  rw [← hn, ← hn2] at HSE
  rw [← hM] at HI1
  rw [← hM2] at HI2
  rw [← hM, ← hM2] at HSN
  rw [← hn, ← hn2, ← hM, ← hM2]
  have hb1 := below_more (Below.refl _ w) (.cells #[.int .i64 kd, .int .i64 fr, .int .i64 tq, .int .i64 tm, .int .i64 ix, .int .i64 lt, .int .i64 cm, .bool yes, .slice ea n ec, .int .i64 si, .int .i64 st, .slice ma M mc, .string sd] 27)
  have hb := below_more hb1 (.cells #[.int .i64 kd, .int .i64 fr, .int .i64 tq, .int .i64 tm, .int .i64 zix, .int .i64 zlt, .int .i64 zcm, .bool zyes, .slice eb n2 ed, .int .i64 zsi, .int .i64 zst, .slice mb M2 md, .string zsd] 27)
  have hrA : Rw ((w.alloc (.cells #[.int .i64 kd, .int .i64 fr, .int .i64 tq, .int .i64 tm, .int .i64 ix, .int .i64 lt, .int .i64 cm, .bool yes, .slice ea n ec, .int .i64 si, .int .i64 st, .slice ma M mc, .string sd] 27)).alloc (.cells #[.int .i64 kd, .int .i64 fr, .int .i64 tq, .int .i64 tm, .int .i64 zix, .int .i64 zlt, .int .i64 zcm, .bool zyes, .slice eb n2 ed, .int .i64 zsi, .int .i64 zst, .slice mb M2 md, .string zsd] 27)) 0 w.heap.size 27 [.int .i64 kd, .int .i64 fr, .int .i64 tq, .int .i64 tm, .int .i64 ix, .int .i64 lt, .int .i64 cm, .bool yes, .slice ea n ec, .int .i64 si, .int .i64 st, .slice ma M mc, .string sd] := Rw.more (Rw.alloc w _ _ (Nat.zero_le _)) _
  have hrB : Rw ((w.alloc (.cells #[.int .i64 kd, .int .i64 fr, .int .i64 tq, .int .i64 tm, .int .i64 ix, .int .i64 lt, .int .i64 cm, .bool yes, .slice ea n ec, .int .i64 si, .int .i64 st, .slice ma M mc, .string sd] 27)).alloc (.cells #[.int .i64 kd, .int .i64 fr, .int .i64 tq, .int .i64 tm, .int .i64 zix, .int .i64 zlt, .int .i64 zcm, .bool zyes, .slice eb n2 ed, .int .i64 zsi, .int .i64 zst, .slice mb M2 md, .string zsd] 27)) 0 (w.heap.size + 1) 27 [.int .i64 kd, .int .i64 fr, .int .i64 tq, .int .i64 tm, .int .i64 zix, .int .i64 zlt, .int .i64 zcm, .bool zyes, .slice eb n2 ed, .int .i64 zsi, .int .i64 zst, .slice mb M2 md, .string zsd] := by
    have := Rw.alloc (w.alloc (.cells #[.int .i64 kd, .int .i64 fr, .int .i64 tq, .int .i64 tm, .int .i64 ix, .int .i64 lt, .int .i64 cm, .bool yes, .slice ea n ec, .int .i64 si, .int .i64 st, .slice ma M mc, .string sd] 27)) 27 #[.int .i64 kd, .int .i64 fr, .int .i64 tq, .int .i64 tm, .int .i64 zix, .int .i64 zlt, .int .i64 zcm, .bool zyes, .slice eb n2 ed, .int .i64 zsi, .int .i64 zst, .slice mb M2 md, .string zsd] (Nat.zero_le _)
    simpa using this
  have HB := Lib.hid hb
  have HRA := Lib.hid hrA
  have HRB := Lib.hid hrB
  have HC := Lib.hid (HSE.out _ hb)
  have q00 : (kd == kd) = true := by rw [beq_iff_eq]
  have q01 : (fr == fr) = true := by rw [beq_iff_eq]
  have q02 : (tq == tq) = true := by rw [beq_iff_eq]
  have q03 : (tm == tm) = true := by rw [beq_iff_eq]
  clear he1 hl1 hm1 he2 hm2 hn hn2 hM hM2 hb1 hb hrA hrB HSE
  by_cases g0 : ix = zix
  case neg =>
    have q0 : (ix == zix) = false := by rw [beq_eq_false_iff_ne]; exact g0
    have HF := Lib.hid (HR.out false ⟨fun h => absurd h (by decide), fun h => absurd h.1 g0⟩)
    clear g0
    go_enter Try.func15, Try.ntmps15
    go_wp2_with fail
    go_ret
    exact ⟨⟨_, rfl, HF.out⟩, HB.out⟩
  have q0 : (ix == zix) = true := by rw [beq_iff_eq]; exact g0
  have G0 := Lib.hid g0
  clear g0
  by_cases g1 : lt = zlt
  case neg =>
    have q1 : (lt == zlt) = false := by rw [beq_eq_false_iff_ne]; exact g1
    have HF := Lib.hid (HR.out false ⟨fun h => absurd h (by decide), fun h => absurd h.2.1 g1⟩)
    clear g1
    go_enter Try.func15, Try.ntmps15
    go_wp2_with fail
    go_ret
    exact ⟨⟨_, rfl, HF.out⟩, HB.out⟩
  have q1 : (lt == zlt) = true := by rw [beq_iff_eq]; exact g1
  have G1 := Lib.hid g1
  clear g1
  by_cases g2 : cm = zcm
  case neg =>
    have q2 : (cm == zcm) = false := by rw [beq_eq_false_iff_ne]; exact g2
    have HF := Lib.hid (HR.out false ⟨fun h => absurd h (by decide), fun h => absurd h.2.2.1 g2⟩)
    clear g2
    go_enter Try.func15, Try.ntmps15
    go_wp2_with fail
    go_ret
    exact ⟨⟨_, rfl, HF.out⟩, HB.out⟩
  have q2 : (cm == zcm) = true := by rw [beq_iff_eq]; exact g2
  have G2 := Lib.hid g2
  clear g2
  by_cases g3 : yes = zyes
  case neg =>
    have q3 : (yes == zyes) = false := by rw [beq_eq_false_iff_ne]; exact g3
    have HF := Lib.hid (HR.out false ⟨fun h => absurd h (by decide), fun h => absurd h.2.2.2.1 g3⟩)
    clear g3
    go_enter Try.func15, Try.ntmps15
    go_wp2_with fail
    go_ret
    exact ⟨⟨_, rfl, HF.out⟩, HB.out⟩
  have q3 : (yes == zyes) = true := by rw [beq_iff_eq]; exact g3
  have G3 := Lib.hid g3
  clear g3
  go_enter Try.func15, Try.ntmps15
  go_wp2_with fail
  refine (HC.out).mono ?_
  rintro e w2 ⟨⟨r, rfl, hr⟩, hb2⟩
  have HB2 := Lib.hid (below_then HB.out hb2)
  have HR1 := Lib.hid hr
  have hA := Rw.below HRA.out hb2
  have hB := Rw.below HRB.out hb2
  have x9 := Rw.cell (j := 9) (v := (.int .i64 si)) hA rfl
  have y9 := Rw.cell (j := 9) (v := (.int .i64 zsi)) hB rfl
  have x10 := Rw.cell (j := 10) (v := (.int .i64 st)) hA rfl
  have y10 := Rw.cell (j := 10) (v := (.int .i64 zst)) hB rfl
  have x11 := Rw.cell (j := 11) (v := (.slice ma M mc)) hA rfl
  have y11 := Rw.cell (j := 11) (v := (.slice mb M2 md)) hB rfl
  have x12 := Rw.cell (j := 12) (v := (.string sd)) hA rfl
  have y12 := Rw.cell (j := 12) (v := (.string zsd)) hB rfl
  clear hb2 hr hA hB
  cases r with
  | false =>
    have HF := Lib.hid (HR.out false ⟨fun h => absurd h (by decide), fun h => absurd (HR1.out.2 h.2.2.2.2.1) (by decide)⟩)
    go_wp2_with fail
    go_ret
    exact ⟨⟨_, rfl, HF.out⟩, HB2.out⟩
  | true =>
    have HS2 := HSN w2 (HI1.out _ HB2.out) (HI2.out _ HB2.out)
    go_wp2_with fail
    refine (HS2.out).mono ?_
    rintro e w3 ⟨⟨r2, rfl, hr2⟩, hb3⟩
    have HB3 := Lib.hid (below_then HB2.out hb3)
    have HF := Lib.hid (HR.out r2 ⟨fun h => ⟨G0.out, G1.out, G2.out, G3.out, HR1.out.1 rfl, hr2.1 h⟩, fun h => hr2.2 h.2.2.2.2.2⟩)
    clear hb3 hr2
    go_wp2_with fail
    go_ret
    exact ⟨⟨_, rfl, HF.out⟩, HB3.out⟩

end Go.Proofs.Ythpljpbiamjmaaa
