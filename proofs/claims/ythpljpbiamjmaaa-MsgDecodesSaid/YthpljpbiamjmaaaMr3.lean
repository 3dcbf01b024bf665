/- Contracts: the reference: a message with what its Kind names; an odd entry. -/
import Derived.BigRegion
import Derived.Deep.RegionHeld3
import Derived.Deep.CutBlock
import Derived.Test.YthpljpbiamjmaaaProg
import Derived.Test.YthpljpbiamjmaaaKit
import Derived.Test.YthpljpbiamjmaaaRow
import Derived.Test.YthpljpbiamjmaaaCod7
import Derived.Test.YthpljpbiamjmaaaKp0
import Derived.Test.YthpljpbiamjmaaaMg0
import Derived.Test.YthpljpbiamjmaaaMg2
import Derived.Test.YthpljpbiamjmaaaMg5
namespace Go.Proofs.Ythpljpbiamjmaaa
open Go.RowKit Go.Proofs

def onlyM (m : MsgM) : MsgM :=
  if m.kd = 1 then ⟨m.kd, m.fr, m.to, m.tm, m.ix, m.lt, 0, false, [], zeroSn⟩
  else if m.kd = 2 then ⟨m.kd, m.fr, m.to, m.tm, 0, 0, 0, m.yes, [], zeroSn⟩
  else if m.kd = 3 then ⟨m.kd, m.fr, m.to, m.tm, m.ix, m.lt, m.cm, false, m.es, zeroSn⟩
  else if m.kd = 4 then ⟨m.kd, m.fr, m.to, m.tm, m.ix, 0, 0, m.yes, [], zeroSn⟩
  else if m.kd = 5 then ⟨m.kd, m.fr, m.to, m.tm, 0, 0, 0, false, [], m.sn⟩
  else ⟨m.kd, m.fr, m.to, m.tm, 0, 0, 0, false, [], zeroSn⟩

theorem heap_mid (w : World) (o1 o2 o3 : Obj) : (((w.alloc o1).alloc o2).alloc o3).heap[w.heap.size + 1]? = some o2 := by
  have h := (below_more (Below.refl _ ((w.alloc o1).alloc o2)) o3).block (w.heap.size + 1) (by simp)
  rw [h]
  exact heap_two w o1 o2

def OnlyV (e : Ending) (m : MsgM) (ev mv : Value) : Prop := ∃ ev' mv', e = .returned (msgV (onlyM m) ev' mv') ∧ ∀ W, MsgAt W ev mv m → MsgAt W ev' mv' (onlyM m)

theorem ents_nil (W : World) : EntsAt W (.slice none 0 0) [] := ⟨none, 0, rfl, .inl rfl⟩

theorem ints_nil (W : World) : IntsAt W (.slice none 0 0) [] := ⟨by simp, .inl ⟨rfl, rfl⟩⟩

set_option maxRecDepth 100000 in
set_option maxHeartbeats 4000000 in
theorem only_any {w : World} (m : MsgM) {c c2 : Nat} {a a2 : Option Addr} (hk : 1 ≤ m.kd ∧ m.kd ≤ 5) :
    Calls Try.prog 19 #[msgV m (.slice a m.es.length c) (.slice a2 m.sn.ms.length c2)] w fun e w' => OnlyV e m (.slice a m.es.length c) (.slice a2 m.sn.ms.length c2) ∧ Below w.heap.size w w' := by
  have hz := zero_cells Try.infoMsg
  unfold msgV
  have HF : Hid (∀ e x ev' mv', onlyM m = x → e = .returned (msgV x ev' mv') → (∀ W, MsgAt W (.slice a m.es.length c) (.slice a2 m.sn.ms.length c2) m → MsgAt W ev' mv' x) → OnlyV e m (.slice a m.es.length c) (.slice a2 m.sn.ms.length c2)) := Lib.hid (fun e x ev' mv' hx he hW => ⟨ev', mv', by rw [hx]; exact he, by rw [hx]; exact hW⟩)
  have HXX : Hid (∀ k, m.kd = k → onlyM m = onlyM { m with kd := k }) := Lib.hid (fun k hk => by rw [← hk])
  obtain ⟨kd, fr, tq, tm, ix, lt, cm, yes, es, ⟨si, st, ms, sd⟩⟩ := m
  dsimp only at HF HXX hk ⊢
  obtain ⟨n, hn⟩ : ∃ n, n = es.length := ⟨_, rfl⟩
  obtain ⟨M, hM⟩ : ∃ M, M = ms.length := ⟨_, rfl⟩
  rw [← hn, ← hM] at HF ⊢
  have HN := Lib.hid hn
  have HM := Lib.hid hM
  clear hn hM
  have hk5 : kd = 1 ∨ kd = 2 ∨ kd = 3 ∨ kd = 4 ∨ kd = 5 := by omega
  clear hk HXX
  rcases hk5 with rfl | rfl | rfl | rfl | rfl
  · go_enter Try.func19, Try.ntmps19
    go_wp2_with (first | (refine wpList_alloc_z rfl 27 rfl #[.int .i64 0, .int .i64 0, .int .i64 0, .int .i64 0, .int .i64 0, .int .i64 0, .int .i64 0, .bool false, .slice none 0 0, .int .i64 0, .int .i64 0, .slice none 0 0, .string ⟨#[]⟩] hz ?_) | fail)
    refine bodyPost_ret (v := .agg #[.int .i64 1, .int .i64 fr, .int .i64 tq, .int .i64 tm, .int .i64 ix, .int .i64 lt, .int .i64 0, .bool false, .slice none 0 0, .int .i64 0, .int .i64 0, .slice none 0 0, .string ⟨#[]⟩]) ?_ rfl ⟨HF.out _ ⟨1, fr, tq, tm, ix, lt, 0, false, [], zeroSn⟩ (.slice none 0 0) (.slice none 0 0) (by simp [onlyM]) rfl (fun W hW => ⟨ents_nil W, by simp, ints_nil W⟩), below_more (below_more (below_more (Below.refl _ w) _) _) _⟩
    exact results_cell_row rfl _ _ (w.heap.size + 1) _ _ _ _ rfl (heap_mid _ _ _ _) Try.underlying27 rfl Try.sizeMsg
  · go_enter Try.func19, Try.ntmps19
    go_wp2_with (first | (refine wpList_alloc_z rfl 27 rfl #[.int .i64 0, .int .i64 0, .int .i64 0, .int .i64 0, .int .i64 0, .int .i64 0, .int .i64 0, .bool false, .slice none 0 0, .int .i64 0, .int .i64 0, .slice none 0 0, .string ⟨#[]⟩] hz ?_) | fail)
    refine bodyPost_ret (v := .agg #[.int .i64 2, .int .i64 fr, .int .i64 tq, .int .i64 tm, .int .i64 0, .int .i64 0, .int .i64 0, .bool yes, .slice none 0 0, .int .i64 0, .int .i64 0, .slice none 0 0, .string ⟨#[]⟩]) ?_ rfl ⟨HF.out _ ⟨2, fr, tq, tm, 0, 0, 0, yes, [], zeroSn⟩ (.slice none 0 0) (.slice none 0 0) (by simp [onlyM]) rfl (fun W hW => ⟨ents_nil W, by simp, ints_nil W⟩), below_more (below_more (below_more (Below.refl _ w) _) _) _⟩
    exact results_cell_row rfl _ _ (w.heap.size + 1) _ _ _ _ rfl (heap_mid _ _ _ _) Try.underlying27 rfl Try.sizeMsg
  · go_enter Try.func19, Try.ntmps19
    go_wp2_with (first | (refine wpList_alloc_z rfl 27 rfl #[.int .i64 0, .int .i64 0, .int .i64 0, .int .i64 0, .int .i64 0, .int .i64 0, .int .i64 0, .bool false, .slice none 0 0, .int .i64 0, .int .i64 0, .slice none 0 0, .string ⟨#[]⟩] hz ?_) | fail)
    refine bodyPost_ret (v := .agg #[.int .i64 3, .int .i64 fr, .int .i64 tq, .int .i64 tm, .int .i64 ix, .int .i64 lt, .int .i64 cm, .bool false, .slice a n c, .int .i64 0, .int .i64 0, .slice none 0 0, .string ⟨#[]⟩]) ?_ rfl ⟨HF.out _ ⟨3, fr, tq, tm, ix, lt, cm, false, es, zeroSn⟩ (.slice a n c) (.slice none 0 0) (by simp [onlyM]) rfl (fun W hW => ⟨hW.1, hW.2.1, ints_nil W⟩), below_more (below_more (below_more (Below.refl _ w) _) _) _⟩
    exact results_cell_row rfl _ _ (w.heap.size + 1) _ _ _ _ rfl (heap_mid _ _ _ _) Try.underlying27 rfl Try.sizeMsg
  · go_enter Try.func19, Try.ntmps19
    go_wp2_with (first | (refine wpList_alloc_z rfl 27 rfl #[.int .i64 0, .int .i64 0, .int .i64 0, .int .i64 0, .int .i64 0, .int .i64 0, .int .i64 0, .bool false, .slice none 0 0, .int .i64 0, .int .i64 0, .slice none 0 0, .string ⟨#[]⟩] hz ?_) | fail)
    refine bodyPost_ret (v := .agg #[.int .i64 4, .int .i64 fr, .int .i64 tq, .int .i64 tm, .int .i64 ix, .int .i64 0, .int .i64 0, .bool yes, .slice none 0 0, .int .i64 0, .int .i64 0, .slice none 0 0, .string ⟨#[]⟩]) ?_ rfl ⟨HF.out _ ⟨4, fr, tq, tm, ix, 0, 0, yes, [], zeroSn⟩ (.slice none 0 0) (.slice none 0 0) (by simp [onlyM]) rfl (fun W hW => ⟨ents_nil W, by simp, ints_nil W⟩), below_more (below_more (below_more (Below.refl _ w) _) _) _⟩
    exact results_cell_row rfl _ _ (w.heap.size + 1) _ _ _ _ rfl (heap_mid _ _ _ _) Try.underlying27 rfl Try.sizeMsg
  · go_enter Try.func19, Try.ntmps19
    go_wp2_with (first | (refine wpList_alloc_z rfl 27 rfl #[.int .i64 0, .int .i64 0, .int .i64 0, .int .i64 0, .int .i64 0, .int .i64 0, .int .i64 0, .bool false, .slice none 0 0, .int .i64 0, .int .i64 0, .slice none 0 0, .string ⟨#[]⟩] hz ?_) | fail)
    refine bodyPost_ret (v := .agg #[.int .i64 5, .int .i64 fr, .int .i64 tq, .int .i64 tm, .int .i64 0, .int .i64 0, .int .i64 0, .bool false, .slice none 0 0, .int .i64 si, .int .i64 st, .slice a2 M c2, .string sd]) ?_ rfl ⟨HF.out _ ⟨5, fr, tq, tm, 0, 0, 0, false, [], ⟨si, st, ms, sd⟩⟩ (.slice none 0 0) (.slice a2 M c2) (by simp [onlyM]) rfl (fun W hW => ⟨ents_nil W, by simp, hW.2.2⟩), below_more (below_more (below_more (Below.refl _ w) _) _) _⟩
    exact results_cell_row rfl _ _ (w.heap.size + 1) _ _ _ _ rfl (heap_mid _ _ _ _) Try.underlying27 rfl Try.sizeMsg

def oddB0 (x : EntM) : Bool := decide (x.ix < 0) || decide (x.tm < 0) || decide (x.kd < 0) || decide (4000 < (x.d.size : Int)) || decide (9 < (x.ms.length : Int))

theorem odd_ent (x : EntM) : (oddB0 x || !natsB x.ms) = !entB x := by
  unfold oddB0 entB memsB
  have h3 : natsB [x.ix, x.tm, x.kd] = (decide (0 ≤ x.ix) && decide (0 ≤ x.tm) && decide (0 ≤ x.kd)) := by unfold natsB; simp [Bool.and_assoc]
  rw [h3]
  have e1 : decide (x.ix < 0) = !decide (0 ≤ x.ix) := by rw [← decide_not]; exact decide_eq_decide.2 (by omega)
  have e2 : decide (x.tm < 0) = !decide (0 ≤ x.tm) := by rw [← decide_not]; exact decide_eq_decide.2 (by omega)
  have e3 : decide (x.kd < 0) = !decide (0 ≤ x.kd) := by rw [← decide_not]; exact decide_eq_decide.2 (by omega)
  have e4 : decide (4000 < (x.d.size : Int)) = !decide (x.d.size ≤ 4000) := by rw [← decide_not]; exact decide_eq_decide.2 (by omega)
  have e5 : decide (9 < (x.ms.length : Int)) = !decide (x.ms.length ≤ 9) := by rw [← decide_not]; exact decide_eq_decide.2 (by omega)
  rw [e1, e2, e3, e4, e5]
  cases decide (0 ≤ x.ix) <;> cases decide (0 ≤ x.tm) <;> cases decide (0 ≤ x.kd) <;> cases decide (x.d.size ≤ 4000) <;> cases decide (x.ms.length ≤ 9) <;> cases natsB x.ms <;> rfl

theorem orn1 {b p q : Bool} (h : true = (b || !p)) : true = (b || !(p && q)) := by cases b <;> cases p <;> simp at h ⊢

theorem orn2 {b p : Bool} (h : false = (b || !p)) : false = (b || !(p && true)) := by cases b <;> cases p <;> simp at h ⊢

theorem or5 {q0 q1 q2 q3 q4 : Bool} : q0 = true ∨ (q0 = false ∧ q1 = true) ∨ (q0 = false ∧ q1 = false ∧ q2 = true) ∨ (q0 = false ∧ q1 = false ∧ q2 = false ∧ q3 = true) ∨ (q0 = false ∧ q1 = false ∧ q2 = false ∧ q3 = false ∧ q4 = true) ∨ (q0 = false ∧ q1 = false ∧ q2 = false ∧ q3 = false ∧ q4 = false) := by
  cases q0 <;> cases q1 <;> cases q2 <;> cases q3 <;> cases q4 <;> simp

set_option maxRecDepth 100000 in
set_option maxHeartbeats 4000000 in
theorem odd_any {w : World} (x : EntM) {a : Option Addr} {c : Nat} (h : IntsAt w (.slice a x.ms.length c) x.ms) :
    Calls Try.prog 20 #[.agg #[.int .i64 x.ix, .int .i64 x.tm, .int .i64 x.kd, .string x.d, .slice a x.ms.length c]] w fun e w' => e = .returned (.bool (!entB x)) ∧ Below w.heap.size w w' := by
  rw [← odd_ent]
  obtain ⟨b0, hb0⟩ : ∃ b0, b0 = oddB0 x := ⟨_, rfl⟩
  rw [← hb0]
  obtain ⟨xi, xt, xk, xd, xm⟩ := x
  dsimp only at h ⊢
  have hb2 : b0 = (decide (xi < 0) || decide (xt < 0) || decide (xk < 0) || decide (4000 < (xd.size : Int)) || decide (9 < (xm.length : Int))) := hb0
  obtain ⟨M, hM⟩ : ∃ M, M = xm.length := ⟨_, rfl⟩
  rw [← hM] at h hb2 ⊢
  have hb := below_more (Below.refl _ w) (.cells #[.int .i64 xi, .int .i64 xt, .int .i64 xk, .string xd, .slice a M c] 46)
  have H := Lib.hid (intsAt_below h hb)
  have HB := Lib.hid hb
  have HB2 := Lib.hid hb2
  have HMM := Lib.hid hM
  clear h hb0 hb2 hM hb
  go_enter Try.func20, Try.ntmps20
  go_upto_region 1 with fail
  go_cut [3] from 5 (fun c3 wx => c3 = .bool b0 ∧ wx = w.alloc (.cells #[.int .i64 xi, .int .i64 xt, .int .i64 xk, .string xd, .slice a M c] 46))
  case first =>
    rcases or5 (q0 := decide (xi < 0)) (q1 := decide (xt < 0)) (q2 := decide (xk < 0)) (q3 := decide (4000 < (xd.size : Int))) (q4 := decide (9 < (M : Int))) with h0 | ⟨h0, h1⟩ | ⟨h0, h1, h2⟩ | ⟨h0, h1, h2, h3⟩ | ⟨h0, h1, h2, h3, h4⟩ | ⟨h0, h1, h2, h3, h4⟩
    · have HQ := Lib.hid (show b0 = true by rw [HB2.out, h0]; simp)
      clear HB2
      go_wp2_with fail
      go_meet
      exact ⟨by rw [HQ.out], rfl⟩
    · have HQ := Lib.hid (show b0 = true by rw [HB2.out, h0, h1]; simp)
      clear HB2
      go_wp2_with fail
      go_meet
      exact ⟨by rw [HQ.out], rfl⟩
    · have HQ := Lib.hid (show b0 = true by rw [HB2.out, h0, h1, h2]; simp)
      clear HB2
      go_wp2_with fail
      go_meet
      exact ⟨by rw [HQ.out], rfl⟩
    · have HQ := Lib.hid (show b0 = true by rw [HB2.out, h0, h1, h2, h3]; simp)
      clear HB2
      go_wp2_with fail
      go_meet
      exact ⟨by rw [HQ.out], rfl⟩
    · have HQ := Lib.hid (show b0 = true by rw [HB2.out, h0, h1, h2, h3, h4]; simp)
      clear HB2
      go_wp2_with fail
      go_meet
      exact ⟨by rw [HQ.out], rfl⟩
    · have HQ := Lib.hid (show b0 = false by rw [HB2.out, h0, h1, h2, h3, h4]; simp)
      clear HB2
      go_wp2_with fail
      go_meet
      exact ⟨by rw [HQ.out], rfl⟩
  case rest =>
    obtain ⟨rfl, rfl⟩ := hcut
    go_wp2_with fail
    go_loopw [3, 4] (fun bv iv wr => ∃ (i : Nat) (b : Bool), i ≤ M ∧ iv = .int .i64 i ∧ bv = .bool b ∧ Hid (b = (b0 || !natsB (xm.take i))) ∧ w.alloc (.cells #[.int .i64 xi, .int .i64 xt, .int .i64 xk, .string xd, .slice a M c] 46) = wr) (fun _ iv _ => M - (intOf iv).toNat)
    case atStart => exact ⟨0, b0, Nat.zero_le _, rfl, rfl, Lib.hid (by simp [natsB]), rfl⟩
    case round =>
      obtain ⟨i, b, hi', rfl, rfl, HQ, rfl⟩ := hrel
      by_cases hlt : i < M
      · obtain ⟨x, hx⟩ : ∃ x, xm[i]? = some x := ⟨_, List.getElem?_eq_getElem (by rw [← HMM.out]; exact hlt)⟩
        obtain ⟨bb, o, rfl, d0⟩ := ints_cell H.out hx
        have hy : (i : Int) < (M : Int) := by omega
        have hi1 : (i : Int) < 1000000 := by have h1 := H.out.1; have := HMM.out; omega
        have HI := Lib.hid hlt
        have HTK := Lib.hid (show natsB (xm.take (i + 1)) = (natsB (xm.take i) && decide (0 ≤ x)) by rw [take_succ_of hx]; unfold natsB; rw [List.all_append]; simp)
        clear hx hlt hi'
        cases b with
        | true =>
          have HQ2 : Hid (true = (b0 || !natsB (xm.take (i + 1)))) := Lib.hid (by rw [HTK.out]; exact orn1 HQ.out)
          clear d0
          go_wp2_with fail
          go_roundw
          case rel => exact ⟨i + 1, true, HI.out, by go_num, rfl, HQ2, trivial⟩
          case measure => have := HI.out; simp [intOf]; omega
        | false =>
          by_cases h0 : x < 0
          · have q0 : decide (x < 0) = true := decide_eq_true h0
            have HQ2 : Hid (true = (b0 || !natsB (xm.take (i + 1)))) := Lib.hid (by rw [HTK.out, decide_eq_false (by omega)]; simp)
            clear h0
            go_wp2_with fail
            go_roundw
            case rel => exact ⟨i + 1, true, HI.out, by go_num, rfl, HQ2, trivial⟩
            case measure => have := HI.out; simp [intOf]; omega
          · have q0 : decide (x < 0) = false := decide_eq_false h0
            have HQ2 : Hid (false = (b0 || !natsB (xm.take (i + 1)))) := Lib.hid (by rw [HTK.out, decide_eq_true (by omega)]; exact orn2 HQ.out)
            clear h0
            go_wp2_with fail
            go_roundw
            case rel => exact ⟨i + 1, false, HI.out, by go_num, rfl, HQ2, trivial⟩
            case measure => have := HI.out; simp [intOf]; omega
      · have hyk : ¬ (i : Int) < (M : Int) := by omega
        have HR : Hid (b = (b0 || !natsB xm)) := Lib.hid (by have h := HQ.out; rwa [List.take_of_length_le (by rw [← HMM.out]; omega)] at h)
        clear hlt hi'
        go_wp2_with fail
        go_ret
        exact ⟨by rw [← HR.out]; rfl, HB.out⟩

end Go.Proofs.Ythpljpbiamjmaaa
