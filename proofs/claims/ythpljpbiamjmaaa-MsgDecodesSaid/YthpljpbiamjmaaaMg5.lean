/- Contracts: msg: what a Kind does not list; whether a message is written. -/
import Derived.BigRegion
import Derived.Deep.RegionHeld3
import Derived.Test.YthpljpbiamjmaaaProg
import Derived.Test.YthpljpbiamjmaaaKit
import Derived.Test.YthpljpbiamjmaaaRow
import Derived.Test.YthpljpbiamjmaaaCod7
import Derived.Test.YthpljpbiamjmaaaFrm4
import Derived.Test.YthpljpbiamjmaaaKp0
import Derived.Test.YthpljpbiamjmaaaMg0
import Derived.Test.YthpljpbiamjmaaaMg2
import Derived.Test.YthpljpbiamjmaaaMg4
namespace Go.Proofs.Ythpljpbiamjmaaa
open Go.RowKit Go.Proofs

theorem Try.infoMsg : (Try.prog.info? 27).map (fun i => (i.zero, i.size)) = some (some (.agg #[.int .i64 0, .int .i64 0, .int .i64 0, .int .i64 0, .int .i64 0, .int .i64 0, .int .i64 0, .bool false, .slice none 0 0, .int .i64 0, .int .i64 0, .slice none 0 0, .string ⟨#[]⟩]), 13) := by kernel_rfl

theorem Try.sizeMsg : (Try.prog.info? 27).map (·.size) = some 13 := by kernel_rfl

theorem heap_two (w : World) (o1 o2 : Obj) : ((w.alloc o1).alloc o2).heap[w.heap.size + 1]? = some o2 := by
  have h := heap_alloc_new (w.alloc o1) o2
  simpa using h

theorem six_of (k : Int) : k = 1 ∨ k = 2 ∨ k = 3 ∨ k = 4 ∨ k = 5 ∨ (¬ k = 1 ∧ ¬ k = 2 ∧ ¬ k = 3 ∧ ¬ k = 4 ∧ ¬ k = 5) := by omega

set_option maxRecDepth 100000 in
set_option maxHeartbeats 4000000 in
theorem unlisted_any {w : World} (m : MsgM) {c c2 : Nat} {a a2 : Option Addr} :
    Calls Try.prog 36 #[.agg #[.int .i64 m.kd, .int .i64 m.fr, .int .i64 m.to, .int .i64 m.tm, .int .i64 m.ix, .int .i64 m.lt, .int .i64 m.cm, .bool m.yes, .slice a m.es.length c, .int .i64 m.sn.ix, .int .i64 m.sn.tm, .slice a2 m.sn.ms.length c2, .string m.sn.d]] w fun e w' => (∃ a' c' a2' c2', e = .returned (.agg #[.int .i64 (unlM m).kd, .int .i64 (unlM m).fr, .int .i64 (unlM m).to, .int .i64 (unlM m).tm, .int .i64 (unlM m).ix, .int .i64 (unlM m).lt, .int .i64 (unlM m).cm, .bool (unlM m).yes, .slice a' (unlM m).es.length c', .int .i64 (unlM m).sn.ix, .int .i64 (unlM m).sn.tm, .slice a2' (unlM m).sn.ms.length c2', .string (unlM m).sn.d])) ∧ Below w.heap.size w w' := by
  have hz := zero_cells Try.infoMsg
  obtain ⟨u, hu⟩ : ∃ u, u = unlM m := ⟨_, rfl⟩
  rw [← hu]
  obtain ⟨kd, fr, to, tm, ix, lt, cm, yes, es, ⟨si, st, ms, sd⟩⟩ := m
  dsimp only
  obtain ⟨n, hn⟩ : ∃ n, n = es.length := ⟨_, rfl⟩
  obtain ⟨M, hM⟩ : ∃ M, M = ms.length := ⟨_, rfl⟩
  rw [← hn, ← hM]
  have HU := Lib.hid hu
  have HN := Lib.hid hn
  have HM := Lib.hid hM
  clear hu hn hM
  rcases six_of kd with rfl | rfl | rfl | rfl | rfl | ⟨h1, h2, h3, h4, h5⟩
  · have HE : Hid (u = ⟨1, fr, to, tm, 0, 0, cm, yes, es, ⟨si, st, ms, sd⟩⟩) := Lib.hid (by rw [HU.out]; simp [unlM])
    clear HU
    go_enter Try.func36, Try.ntmps36
    go_wp2_with (first | (refine wpList_alloc_z rfl 27 rfl #[.int .i64 0, .int .i64 0, .int .i64 0, .int .i64 0, .int .i64 0, .int .i64 0, .int .i64 0, .bool false, .slice none 0 0, .int .i64 0, .int .i64 0, .slice none 0 0, .string ⟨#[]⟩] hz ?_) | fail)
    refine bodyPost_ret (v := .agg #[.int .i64 1, .int .i64 fr, .int .i64 to, .int .i64 tm, .int .i64 0, .int .i64 0, .int .i64 cm, .bool yes, .slice a n c, .int .i64 si, .int .i64 st, .slice a2 M c2, .string sd]) ?_ rfl ⟨⟨a, c, a2, c2, ?_⟩, below_more (below_more (Below.refl _ w) _) _⟩
    · exact results_cell_row rfl _ _ (w.heap.size + 1) _ _ _ _ rfl (heap_two _ _ _) Try.underlying27 rfl Try.sizeMsg
    · rw [HE.out, HN.out, HM.out] <;> rfl
  · have HE : Hid (u = ⟨2, fr, to, tm, ix, lt, cm, false, es, ⟨si, st, ms, sd⟩⟩) := Lib.hid (by rw [HU.out]; simp [unlM])
    clear HU
    go_enter Try.func36, Try.ntmps36
    go_wp2_with (first | (refine wpList_alloc_z rfl 27 rfl #[.int .i64 0, .int .i64 0, .int .i64 0, .int .i64 0, .int .i64 0, .int .i64 0, .int .i64 0, .bool false, .slice none 0 0, .int .i64 0, .int .i64 0, .slice none 0 0, .string ⟨#[]⟩] hz ?_) | fail)
    refine bodyPost_ret (v := .agg #[.int .i64 2, .int .i64 fr, .int .i64 to, .int .i64 tm, .int .i64 ix, .int .i64 lt, .int .i64 cm, .bool false, .slice a n c, .int .i64 si, .int .i64 st, .slice a2 M c2, .string sd]) ?_ rfl ⟨⟨a, c, a2, c2, ?_⟩, below_more (below_more (Below.refl _ w) _) _⟩
    · exact results_cell_row rfl _ _ (w.heap.size + 1) _ _ _ _ rfl (heap_two _ _ _) Try.underlying27 rfl Try.sizeMsg
    · rw [HE.out, HN.out, HM.out] <;> rfl
  · have HE : Hid (u = ⟨3, fr, to, tm, 0, 0, 0, yes, [], ⟨si, st, ms, sd⟩⟩) := Lib.hid (by rw [HU.out]; simp [unlM])
    clear HU
    go_enter Try.func36, Try.ntmps36
    go_wp2_with (first | (refine wpList_alloc_z rfl 27 rfl #[.int .i64 0, .int .i64 0, .int .i64 0, .int .i64 0, .int .i64 0, .int .i64 0, .int .i64 0, .bool false, .slice none 0 0, .int .i64 0, .int .i64 0, .slice none 0 0, .string ⟨#[]⟩] hz ?_) | fail)
    refine bodyPost_ret (v := .agg #[.int .i64 3, .int .i64 fr, .int .i64 to, .int .i64 tm, .int .i64 0, .int .i64 0, .int .i64 0, .bool yes, .slice none 0 0, .int .i64 si, .int .i64 st, .slice a2 M c2, .string sd]) ?_ rfl ⟨⟨none, 0, a2, c2, ?_⟩, below_more (below_more (Below.refl _ w) _) _⟩
    · exact results_cell_row rfl _ _ (w.heap.size + 1) _ _ _ _ rfl (heap_two _ _ _) Try.underlying27 rfl Try.sizeMsg
    · rw [HE.out, HM.out] <;> rfl
  · have HE : Hid (u = ⟨4, fr, to, tm, 0, lt, cm, false, es, ⟨si, st, ms, sd⟩⟩) := Lib.hid (by rw [HU.out]; simp [unlM])
    clear HU
    go_enter Try.func36, Try.ntmps36
    go_wp2_with (first | (refine wpList_alloc_z rfl 27 rfl #[.int .i64 0, .int .i64 0, .int .i64 0, .int .i64 0, .int .i64 0, .int .i64 0, .int .i64 0, .bool false, .slice none 0 0, .int .i64 0, .int .i64 0, .slice none 0 0, .string ⟨#[]⟩] hz ?_) | fail)
    refine bodyPost_ret (v := .agg #[.int .i64 4, .int .i64 fr, .int .i64 to, .int .i64 tm, .int .i64 0, .int .i64 lt, .int .i64 cm, .bool false, .slice a n c, .int .i64 si, .int .i64 st, .slice a2 M c2, .string sd]) ?_ rfl ⟨⟨a, c, a2, c2, ?_⟩, below_more (below_more (Below.refl _ w) _) _⟩
    · exact results_cell_row rfl _ _ (w.heap.size + 1) _ _ _ _ rfl (heap_two _ _ _) Try.underlying27 rfl Try.sizeMsg
    · rw [HE.out, HN.out, HM.out] <;> rfl
  · have HE : Hid (u = ⟨5, fr, to, tm, ix, lt, cm, yes, es, zeroSn⟩) := Lib.hid (by rw [HU.out]; simp [unlM])
    clear HU
    go_enter Try.func36, Try.ntmps36
    go_wp2_with (first | (refine wpList_alloc_z rfl 27 rfl #[.int .i64 0, .int .i64 0, .int .i64 0, .int .i64 0, .int .i64 0, .int .i64 0, .int .i64 0, .bool false, .slice none 0 0, .int .i64 0, .int .i64 0, .slice none 0 0, .string ⟨#[]⟩] hz ?_) | fail)
    refine bodyPost_ret (v := .agg #[.int .i64 5, .int .i64 fr, .int .i64 to, .int .i64 tm, .int .i64 ix, .int .i64 lt, .int .i64 cm, .bool yes, .slice a n c, .int .i64 0, .int .i64 0, .slice none 0 0, .string ⟨#[]⟩]) ?_ rfl ⟨⟨a, c, none, 0, ?_⟩, below_more (below_more (Below.refl _ w) _) _⟩
    · exact results_cell_row rfl _ _ (w.heap.size + 1) _ _ _ _ rfl (heap_two _ _ _) Try.underlying27 rfl Try.sizeMsg
    · rw [HE.out, HN.out] <;> rfl
  · have HE : Hid (u = ⟨kd, fr, to, tm, ix, lt, cm, yes, es, ⟨si, st, ms, sd⟩⟩) := Lib.hid (by rw [HU.out]; simp [unlM, h1, h2, h3, h4, h5])
    clear HU
    go_enter Try.func36, Try.ntmps36
    go_wp2_with (first | (refine wpList_alloc_z rfl 27 rfl #[.int .i64 0, .int .i64 0, .int .i64 0, .int .i64 0, .int .i64 0, .int .i64 0, .int .i64 0, .bool false, .slice none 0 0, .int .i64 0, .int .i64 0, .slice none 0 0, .string ⟨#[]⟩] hz ?_) | fail)
    refine bodyPost_ret (v := .agg #[.int .i64 kd, .int .i64 fr, .int .i64 to, .int .i64 tm, .int .i64 ix, .int .i64 lt, .int .i64 cm, .bool yes, .slice a n c, .int .i64 si, .int .i64 st, .slice a2 M c2, .string sd]) ?_ rfl ⟨⟨a, c, a2, c2, ?_⟩, below_more (below_more (Below.refl _ w) _) _⟩
    · exact results_cell_row rfl _ _ (w.heap.size + 1) _ _ _ _ rfl (heap_two _ _ _) Try.underlying27 rfl Try.sizeMsg
    · rw [HE.out, HN.out, HM.out] <;> rfl

def msgV (m : MsgM) (ev mv : Value) : Value := .agg #[.int .i64 m.kd, .int .i64 m.fr, .int .i64 m.to, .int .i64 m.tm, .int .i64 m.ix, .int .i64 m.lt, .int .i64 m.cm, .bool m.yes, ev, .int .i64 m.sn.ix, .int .i64 m.sn.tm, mv, .string m.sn.d]

def MsgAt (w : World) (ev mv : Value) (m : MsgM) : Prop := EntsAt w ev m.es ∧ m.es.length ≤ 1000000 ∧ IntsAt w mv m.sn.ms

theorem msgAt_below {w w' : World} {ev mv : Value} {m : MsgM} (h : MsgAt w ev mv m) (hb : Below w.heap.size w w') : MsgAt w' ev mv m := ⟨entsAt_below h.1 hb, h.2.1, intsAt_below h.2.2 hb⟩

set_option maxRecDepth 100000 in
set_option maxHeartbeats 4000000 in
theorem encodable_any {w : World} {m : MsgM} {ev mv : Value} (h : MsgAt w ev mv m) :
    Calls Try.prog 17 #[msgV m ev mv] w fun e w' => e = .returned (.bool (okMB m)) ∧ Below w.heap.size w w' := by
  obtain ⟨ok, hok⟩ : ∃ ok, ok = okMB m := ⟨_, rfl⟩
  rw [← hok]
  obtain ⟨b6, h6⟩ : ∃ b6, b6 = emptyB (unlM m) := ⟨_, rfl⟩
  have HUN := fun W (a a2 : Option Addr) (c c2 : Nat) => Lib.hid (unlisted_any (w := W) m (a := a) (c := c) (a2 := a2) (c2 := c2))
  obtain ⟨u, hu⟩ : ∃ u, u = unlM m := ⟨_, rfl⟩
  rw [← hu] at HUN h6
  have hok2 : ok = (decide (1 ≤ m.kd) && decide (m.kd ≤ 5) && ndB m.fr && ndB m.to && natsB [m.tm, m.ix, m.lt, m.cm] && entsB m.es && snpB m.sn && b6) := by rw [hok, h6, hu]; rfl
  obtain ⟨he, hel, hm⟩ := h
  obtain ⟨a, c, rfl, _⟩ := id he
  obtain ⟨a2, c2, rfl⟩ := intsAt_len hm
  unfold msgV
  obtain ⟨kd, fr, to, tm, ix, lt, cm, yes, es, ⟨si, st, ms, sd⟩⟩ := m
  dsimp only at he hel hm hok2 HUN ⊢
  have hbX := below_more (Below.refl _ w) (.cells #[.int .i64 kd, .int .i64 fr, .int .i64 to, .int .i64 tm, .int .i64 ix, .int .i64 lt, .int .i64 cm, .bool yes, .slice a es.length c, .int .i64 si, .int .i64 st, .slice a2 ms.length c2, .string sd] 27)
  have hbI := below_more hbX (.cells #[.int .i64 tm, .int .i64 ix, .int .i64 lt, .int .i64 cm] 3)
  have HEN := Lib.hid (entries_enc (entsAt_below he hbI) hel)
  have HSN := fun W (hb : Below w.heap.size w W) => Lib.hid (snap_enc (w := W) (s := ⟨si, st, ms, sd⟩) (a := a2) (c := c2) (intsAt_below hm hb))
  obtain ⟨n, hn⟩ : ∃ n, n = es.length := ⟨_, rfl⟩
  obtain ⟨M, hM⟩ : ∃ M, M = ms.length := ⟨_, rfl⟩
  dsimp only at HSN
  rw [← hn, ← hM] at hbX hbI HEN HUN ⊢
  rw [← hM] at HSN
  have hrX : Rw (w.alloc (.cells #[.int .i64 kd, .int .i64 fr, .int .i64 to, .int .i64 tm, .int .i64 ix, .int .i64 lt, .int .i64 cm, .bool yes, .slice a n c, .int .i64 si, .int .i64 st, .slice a2 M c2, .string sd] 27)) 0 w.heap.size 27 [.int .i64 kd, .int .i64 fr, .int .i64 to, .int .i64 tm, .int .i64 ix, .int .i64 lt, .int .i64 cm, .bool yes, .slice a n c, .int .i64 si, .int .i64 st, .slice a2 M c2, .string sd] := Rw.alloc w _ _ (Nat.zero_le _)
  have HRX := Lib.hid (Rw.below hrX (below_more (Below.refl _ _) (.cells #[.int .i64 tm, .int .i64 ix, .int .i64 lt, .int .i64 cm] 3)))
  have HNT := Lib.hid (natural_any (ints_new (w := w.alloc (.cells #[.int .i64 kd, .int .i64 fr, .int .i64 to, .int .i64 tm, .int .i64 ix, .int .i64 lt, .int .i64 cm, .bool yes, .slice a n c, .int .i64 si, .int .i64 st, .slice a2 M c2, .string sd] 27)) (l := [tm, ix, lt, cm]) (e2 := 3) (cs := #[.int .i64 tm, .int .i64 ix, .int .i64 lt, .int .i64 cm]) (b := w.heap.size + 1) (n := 4) (c := 4) (by simp) rfl (by simp) rfl))
  have HN1 := fun W => Lib.hid (isNode_any (w := W) fr)
  have HN2 := fun W => Lib.hid (isNode_any (w := W) to)
  have HEM := fun W (a a2 : Option Addr) (c c2 : Nat) => Lib.hid (isEmpty_any (w := W) (kd := u.kd) (fr := u.fr) (to := u.to) (tm := u.tm) (ix := u.ix) (lt := u.lt) (cm := u.cm) (si := u.sn.ix) (st := u.sn.tm) (yes := u.yes) (n := u.es.length) (M := u.sn.ms.length) (c := c) (c2 := c2) (a := a) (a2 := a2) (sd := u.sn.d) (r := b6) (by rw [h6]; exact emptyB_eq _ _ _ _ _ _ _ _ _ _ _ _ _))
  obtain ⟨b1, hb1⟩ : ∃ b1, b1 = ndB fr := ⟨_, rfl⟩
  obtain ⟨b2, hb2⟩ : ∃ b2, b2 = ndB to := ⟨_, rfl⟩
  obtain ⟨b3, hb3⟩ : ∃ b3, b3 = natsB [tm, ix, lt, cm] := ⟨_, rfl⟩
  obtain ⟨b4, hb4⟩ : ∃ b4, b4 = entsB es := ⟨_, rfl⟩
  obtain ⟨b5, hb5⟩ : ∃ b5, b5 = snpB ⟨si, st, ms, sd⟩ := ⟨_, rfl⟩
  rw [← hb1] at HN1 hok2
  rw [← hb2] at HN2 hok2
  rw [← hb3] at HNT hok2
  rw [← hb4] at HEN hok2
  rw [← hb5] at HSN hok2
  have HOK := Lib.hid hok2
  have HBX := Lib.hid hbX
  have HBI := Lib.hid hbI
  clear he hel hm hok hok2 hbX hbI hrX hb1 hb2 hb3 hb4 hb5 h6 hu hn hM
  by_cases k1 : 1 ≤ kd
  case neg =>
    have HR := Lib.hid (show ok = false by rw [HOK.out, decide_eq_false k1]; simp)
    go_enter Try.func17, Try.ntmps17
    go_wp2_with fail
    go_ret
    exact ⟨ret_bool HR.out.symm, HBX.out⟩
  by_cases k2 : kd ≤ 5
  case neg =>
    have HR := Lib.hid (show ok = false by rw [HOK.out, decide_eq_false k2]; simp)
    go_enter Try.func17, Try.ntmps17
    go_wp2_with fail
    go_ret
    exact ⟨ret_bool HR.out.symm, HBX.out⟩
  have HO2 := Lib.hid (show ok = (b1 && b2 && b3 && b4 && b5 && b6) by rw [HOK.out, decide_eq_true k1, decide_eq_true k2]; simp)
  clear HOK
  go_enter Try.func17, Try.ntmps17
  go_wp2_with fail
  refine (HN1 _).out.mono ?_
  rintro e w1 ⟨rfl, rfl⟩
  cases b1 with
  | false =>
    have HR := Lib.hid (show ok = false by rw [HO2.out]; simp)
    go_wp2_with fail
    go_ret
    exact ⟨ret_bool HR.out.symm, HBX.out⟩
  | true =>
  go_wp2_with fail
  refine (HN2 _).out.mono ?_
  rintro e w1 ⟨rfl, rfl⟩
  cases b2 with
  | false =>
    have HR := Lib.hid (show ok = false by rw [HO2.out]; simp)
    go_wp2_with fail
    go_ret
    exact ⟨ret_bool HR.out.symm, HBX.out⟩
  | true =>
  go_wp2_with fail
  refine (HNT.out).mono ?_
  rintro e w1 ⟨rfl, rfl⟩
  cases b3 with
  | false =>
    have HR := Lib.hid (show ok = false by rw [HO2.out]; simp)
    go_wp2_with fail
    go_ret
    exact ⟨ret_bool HR.out.symm, HBI.out⟩
  | true =>
  go_wp2_with fail
  refine (HEN.out).mono ?_
  rintro e w3 ⟨rfl, hb3⟩
  have HB3 := Lib.hid (below_then HBI.out hb3)
  have HR3 := Lib.hid (Rw.below HRX.out hb3)
  clear hb3
  cases b4 with
  | false =>
    have HR := Lib.hid (show ok = false by rw [HO2.out]; simp)
    go_wp2_with fail
    go_ret
    exact ⟨ret_bool HR.out.symm, HB3.out⟩
  | true =>
  have x0 := Rw.cell (j := 0) (v := (.int .i64 kd)) HR3.out rfl
  have x1 := Rw.cell (j := 1) (v := (.int .i64 fr)) HR3.out rfl
  have x2 := Rw.cell (j := 2) (v := (.int .i64 to)) HR3.out rfl
  have x3 := Rw.cell (j := 3) (v := (.int .i64 tm)) HR3.out rfl
  have x4 := Rw.cell (j := 4) (v := (.int .i64 ix)) HR3.out rfl
  have x5 := Rw.cell (j := 5) (v := (.int .i64 lt)) HR3.out rfl
  have x6 := Rw.cell (j := 6) (v := (.int .i64 cm)) HR3.out rfl
  have x7 := Rw.cell (j := 7) (v := (.bool yes)) HR3.out rfl
  have x8 := Rw.cell (j := 8) (v := (.slice a n c)) HR3.out rfl
  have x9 := Rw.cell (j := 9) (v := (.int .i64 si)) HR3.out rfl
  have x10 := Rw.cell (j := 10) (v := (.int .i64 st)) HR3.out rfl
  have x11 := Rw.cell (j := 11) (v := (.slice a2 M c2)) HR3.out rfl
  have x12 := Rw.cell (j := 12) (v := (.string sd)) HR3.out rfl
  go_wp2_with fail
  refine (HSN _ HB3.out).out.mono ?_
  rintro e w4 ⟨rfl, hb4⟩
  have HB4 := Lib.hid (below_then HB3.out hb4)
  have HR4 := Lib.hid (Rw.below HR3.out hb4)
  clear hb4 x0 x1 x2 x3 x4 x5 x6 x7 x8 x9 x10 x11 x12
  cases b5 with
  | false =>
    have HR := Lib.hid (show ok = false by rw [HO2.out]; simp)
    go_wp2_with fail
    go_ret
    exact ⟨ret_bool HR.out.symm, HB4.out⟩
  | true =>
  have x0 := Rw.cell (j := 0) (v := (.int .i64 kd)) HR4.out rfl
  have x1 := Rw.cell (j := 1) (v := (.int .i64 fr)) HR4.out rfl
  have x2 := Rw.cell (j := 2) (v := (.int .i64 to)) HR4.out rfl
  have x3 := Rw.cell (j := 3) (v := (.int .i64 tm)) HR4.out rfl
  have x4 := Rw.cell (j := 4) (v := (.int .i64 ix)) HR4.out rfl
  have x5 := Rw.cell (j := 5) (v := (.int .i64 lt)) HR4.out rfl
  have x6 := Rw.cell (j := 6) (v := (.int .i64 cm)) HR4.out rfl
  have x7 := Rw.cell (j := 7) (v := (.bool yes)) HR4.out rfl
  have x8 := Rw.cell (j := 8) (v := (.slice a n c)) HR4.out rfl
  have x9 := Rw.cell (j := 9) (v := (.int .i64 si)) HR4.out rfl
  have x10 := Rw.cell (j := 10) (v := (.int .i64 st)) HR4.out rfl
  have x11 := Rw.cell (j := 11) (v := (.slice a2 M c2)) HR4.out rfl
  have x12 := Rw.cell (j := 12) (v := (.string sd)) HR4.out rfl
  go_wp2_with fail
  refine (HUN _ _ _ _ _).out.mono ?_
  rintro e w5 ⟨⟨a5, c5, a6, c6, rfl⟩, hb5⟩
  have HB5 := Lib.hid (below_then HB4.out hb5)
  clear hb5 x0 x1 x2 x3 x4 x5 x6 x7 x8 x9 x10 x11 x12
  go_wp2_with fail
  refine (HEM _ _ _ _ _).out.mono ?_
  rintro e w6 ⟨rfl, hb6⟩
  have HB6 := Lib.hid (below_then HB5.out hb6)
  have HR := Lib.hid (show ok = b6 by rw [HO2.out]; simp)
  clear hb6
  go_wp2_with fail
  go_ret
  exact ⟨ret_bool HR.out.symm, HB6.out⟩

end Go.Proofs.Ythpljpbiamjmaaa
