/- Contracts: which messages are looked at. -/
import Derived.BigRegion
import Derived.Deep.RegionHeld3
import Derived.BigQuiet
import Derived.Deep.QuietTactic
import Derived.IntWalk
import Derived.Test.YtpbdilbimpnmjaaProg
import Derived.Test.YtpbdilbimpnmjaaKit
import Derived.Test.YtpbdilbimpnmjaaRow
import Derived.Test.YtpbdilbimpnmjaaRow2
import Derived.Test.YtpbdilbimpnmjaaCod5
import Derived.Test.YtpbdilbimpnmjaaCod7
import Derived.Test.YtpbdilbimpnmjaaCod9
import Derived.Test.YtpbdilbimpnmjaaFrm0
import Derived.Test.YtpbdilbimpnmjaaKp0
import Derived.Test.YtpbdilbimpnmjaaMg0
import Derived.Test.YtpbdilbimpnmjaaMg5
import Derived.Test.YtpbdilbimpnmjaaMg8
import Derived.Test.YtpbdilbimpnmjaaMg10
import Derived.Test.YtpbdilbimpnmjaaMd6
import Derived.Test.YtpbdilbimpnmjaaMd7
import Derived.Test.YtpbdilbimpnmjaaMl2
namespace Go.Proofs.Ytpbdilbimpnmjaa
open Go.RowKit Go.Proofs

def InR (e : Ending) (m : MsgM) : Prop := ∃ b, e = .returned (.bool b) ∧ (b = true → m.sn.ms.length ≤ 2500 ∧ m.es.length ≤ 1000 ∧ ∀ e ∈ m.es, e.ms.length ≤ 2500)

theorem entsWd_cell {w : World} {A : Option Addr} {n C : Nat} {es : List EntM} (h : EntsWd w (.slice A n C) es) {i : Nat} {x : EntM} (hx : es[i]? = some x) : ∃ b o u, A = some ⟨b, o, none⟩ ∧ x.d.size ≤ 140737488351232 ∧ w.rangeAt b (o + i * 5) (cellsE ⟨x, u⟩) ∧ IntsW w u x.ms := by
  obtain ⟨_, A2, C2, hv, h⟩ := h
  injection hv with e1 _ _
  rcases h with h | ⟨b, o, ha, h⟩
  · rw [h] at hx; simp at hx
  · obtain ⟨_, h0, u, h1, h2⟩ := h i x hx
    exact ⟨b, o, u, by rw [e1, ha], h0, h1, h2⟩

theorem intsWd_len {w : World} {v : Value} {l : List Int} (h : IntsW w v l) : ∃ a c, v = .slice a l.length c := by
  rcases h.2.2 with ⟨hv, hl⟩ | ⟨ad, c, hv, _⟩
  · exact ⟨none, 0, by rw [hv, hl]; rfl⟩
  · exact ⟨_, _, hv⟩

set_option maxRecDepth 100000 in
set_option maxHeartbeats 4000000 in
theorem in_any {w : World} {m : MsgM} {ev mv : Value} (h : MsgW w ev mv m) :
    Calls Try.prog 7 #[msgV m ev mv] w fun e w' => InR e m ∧ Below w.heap.size w w' := by
  obtain ⟨he, hm, _, _, hd⟩ := h
  obtain ⟨hel, a, c, rfl, _⟩ := id he
  obtain ⟨a2, c2, rfl⟩ := intsWd_len hm
  have hml := hm.1
  unfold msgV
  have HR : Hid (∀ b, (b = true → m.sn.ms.length ≤ 2500 ∧ m.es.length ≤ 1000 ∧ ∀ e ∈ m.es, e.ms.length ≤ 2500) → InR (.returned (.bool b)) m) := Lib.hid (fun b hb => ⟨b, rfl, hb⟩)
  obtain ⟨kd, fr, tq, tm, ix, lt, cm, yes, es, ⟨si, st, ms, sd⟩⟩ := m
  dsimp only at he hd hel hml HR ⊢
  obtain ⟨n, hn⟩ : ∃ n, n = es.length := ⟨_, rfl⟩
  obtain ⟨M, hM⟩ : ∃ M, M = ms.length := ⟨_, rfl⟩
  obtain ⟨D, hD⟩ : ∃ D, D = sd.size := ⟨_, rfl⟩
  rw [← hn] at he hel ⊢
  rw [← hM] at hml ⊢
  rw [← hD] at hd
  have HE := Lib.hid he
  have HN := Lib.hid hn
  have HM := Lib.hid hM
  have HD := Lib.hid hD
  have q1 : IntKind.i64.wrap (8 * (M : Int)) = 8 * (M : Int) := IntWalk.i64_in _ (by omega)
  have q2 : IntKind.i64.wrap ((sd.size : Int) + 8 * (M : Int)) = (sd.size : Int) + 8 * (M : Int) := IntWalk.i64_in _ (by omega)
  have q3 : IntKind.i64.wrap (20 * (n : Int)) = 20 * (n : Int) := IntWalk.i64_in _ (by omega)
  have q4 : IntKind.i64.wrap ((sd.size : Int) + 8 * (M : Int) + 20 * (n : Int)) = (sd.size : Int) + 8 * (M : Int) + 20 * (n : Int) := IntWalk.i64_in _ (by omega)
  have HB := Lib.hid (below_more (Below.refl _ w) (.cells #[.int .i64 kd, .int .i64 fr, .int .i64 tq, .int .i64 tm, .int .i64 ix, .int .i64 lt, .int .i64 cm, .bool yes, .slice a n c, .int .i64 si, .int .i64 st, .slice a2 M c2, .string sd] 27))
  have HBD : Hid (D ≤ 140737488351232 ∧ M ≤ 140737488351232 ∧ n ≤ 140737488351232) := Lib.hid ⟨hd, hml, hel⟩
  clear he hm hn hM hD hd hml hel
  go_enter Try.func7, Try.ntmps7
  go_wp2_with fail
  obtain ⟨w0, hw0⟩ : ∃ w0, w0 = w.alloc (.cells #[.int .i64 kd, .int .i64 fr, .int .i64 tq, .int .i64 tm, .int .i64 ix, .int .i64 lt, .int .i64 cm, .bool yes, .slice a n c, .int .i64 si, .int .i64 st, .slice a2 M c2, .string sd] 27) := ⟨_, rfl⟩
  have hr0 : Rw w0 0 w.heap.size 27 [.int .i64 kd, .int .i64 fr, .int .i64 tq, .int .i64 tm, .int .i64 ix, .int .i64 lt, .int .i64 cm, .bool yes, .slice a n c, .int .i64 si, .int .i64 st, .slice a2 M c2, .string sd] := by rw [hw0]; exact Rw.alloc w _ _ (Nat.zero_le _)
  rw [← hw0] at HB ⊢
  have HR0 := Lib.hid hr0
  obtain ⟨N0, hN0⟩ : ∃ N0 : Nat, (sd.size : Int) + 8 * (M : Int) + 20 * (n : Int) = (N0 : Int) := ⟨sd.size + 8 * M + 20 * n, by omega⟩
  rw [hN0]
  have HI0 : Hid ((∀ e ∈ es.take 0, 8 * e.ms.length ≤ N0) ∧ 8 * M ≤ N0 ∧ 20 * n ≤ N0 ∧ N0 ≤ 9007199254740992) := Lib.hid ⟨fun e he => by simp at he, by omega, by omega, by have := HBD.out; have := HD.out; omega⟩
  clear hw0 hr0 hN0 q1 q2 q3 q4
  go_loopw [3, 4] (fun nv iv wr => ∃ (i N : Nat), i ≤ n ∧ iv = .int .i64 i ∧ nv = .int .i64 N ∧ Hid ((∀ e ∈ es.take i, 8 * e.ms.length ≤ N) ∧ 8 * M ≤ N ∧ 20 * n ≤ N ∧ N ≤ 9007199254740992) ∧ Hid (Drew w0 wr)) (fun _ iv _ => n - (intOf iv).toNat)
  case atStart => exact ⟨0, N0, Nat.zero_le _, rfl, rfl, HI0, Lib.hid ⟨0, rfl⟩⟩
  case round =>
    clear HI0
    obtain ⟨i, N, hi', rfl, rfl, HV, HDR⟩ := hrel
    obtain ⟨w1, hw1⟩ : ∃ w1 : World, w1 = wr := ⟨_, rfl⟩
    subst hw1
    have hb8 : w1.cell? ⟨w.heap.size, 8, none⟩ = some (.slice a n c) := Rw.cell (Rw.drew HR0.out HDR.out) rfl
    by_cases hlt : i < n
    · by_cases hsm : N ≤ 20000
      · obtain ⟨x, hx⟩ : ∃ x, es[i]? = some x := ⟨_, List.getElem?_eq_getElem (by rw [← HN.out]; exact hlt)⟩
        obtain ⟨b, o, u, rfl, hds, hr, hu⟩ := entsWd_cell HE.out hx
        obtain ⟨ua, uc, rfl⟩ := intsWd_len hu
        have hul := hu.1
        have hTK := take_succ_of hx
        obtain ⟨xi, xt, xk, xd, xm⟩ := x
        dsimp only at hds hr hu hul
        obtain ⟨X, hX⟩ : ∃ X, X = xm.length := ⟨_, rfl⟩
        have hbw : Below w.heap.size w w1 := below_draws HB.out HDR.out
        have hr1 := rangeAt_below hr hbw
        have d3 : w1.cell? ⟨b, o + i * 5 + 3, none⟩ = some (.string xd) := hr1 3 _ rfl
        have d4 : w1.cell? ⟨b, o + i * 5 + 4, none⟩ = some (.slice ua X uc) := by rw [hX]; exact hr1 4 _ rfl
        rw [← hX] at hul
        have q1 : IntKind.i64.wrap ((N : Int) + (xd.size : Int)) = (N : Int) + (xd.size : Int) := IntWalk.i64_in _ (by omega)
        have q2 : IntKind.i64.wrap (8 * (X : Int)) = 8 * (X : Int) := IntWalk.i64_in _ (by omega)
        have q3 : IntKind.i64.wrap ((N : Int) + (xd.size : Int) + 8 * (X : Int)) = (N : Int) + (xd.size : Int) + 8 * (X : Int) := IntWalk.i64_in _ (by omega)
        have hy : (i : Int) < (n : Int) := by omega
        have hi1 : (i : Int) < 9007199254740992 := by have := HBD.out; omega
        have hs2 : (N : Int) ≤ 20000 := by omega
        have HIV : Hid ((∀ e ∈ es.take (i + 1), 8 * e.ms.length ≤ N + xd.size + 8 * X) ∧ 8 * M ≤ N + xd.size + 8 * X ∧ 20 * n ≤ N + xd.size + 8 * X ∧ N + xd.size + 8 * X ≤ 9007199254740992) := Lib.hid ⟨fun e he => by
          rw [hTK] at he
          rcases List.mem_append.1 he with he | he
          · have := HV.out.1 e he; omega
          · simp at he; subst he; dsimp only; omega, by have := HV.out.2.1; omega, by have := HV.out.2.2.1; omega, by omega⟩
        have HI := Lib.hid hlt
        clear hx hr hu hul hds hTK hX hbw hr1 hsm hlt hi'
        go_wp2_with fail
        go_quiet (fail)
        go_wp2_with fail
        go_roundw
        case rel => exact ⟨i + 1, N + xd.size + 8 * X, HI.out, by go_num, by go_num, HIV, Lib.hid (Drew.more HDR.out _)⟩
        case measure => have := HI.out; simp [intOf]; omega
      · have hy : (i : Int) < (n : Int) := by omega
        have hs2 : ¬ (N : Int) ≤ 20000 := by omega
        have q0 : decide ((N : Int) ≤ 20000) = false := decide_eq_false hs2
        have HF := Lib.hid (HR.out false (fun h => absurd h (by decide)))
        clear hlt hi' hsm
        go_wp2_with fail
        go_ret
        exact ⟨HF.out, below_draws HB.out HDR.out⟩
    · have hyk : ¬ (i : Int) < (n : Int) := by omega
      have hin : i = n := by omega
      have HF := Lib.hid (HR.out (decide ((N : Int) ≤ 20000)) (fun h => by
        have h1 := of_decide_eq_true h
        have h2 := HV.out
        rw [hin, List.take_of_length_le (by rw [← HN.out]; omega)] at h2
        exact ⟨by rw [← HM.out]; omega, by rw [← HN.out]; omega, fun e he => by have := h2.1 e he; omega⟩))
      clear hlt hi' hin
      go_wp2_with fail
      go_ret
      exact ⟨HF.out, below_draws HB.out HDR.out⟩

theorem intsWd_below {w w' : World} {v : Value} {l : List Int} (h : IntsW w v l) (hb : Below w.heap.size w w') : IntsW w' v l := by
  obtain ⟨h1, h2, h3⟩ := h
  refine ⟨h1, h2, ?_⟩
  rcases h3 with k | ⟨ad, c, hv, k⟩
  · exact .inl k
  · refine .inr ⟨ad, c, hv, ?_⟩
    rcases k with k | ⟨b, o, ha, k⟩
    · exact .inl k
    · exact .inr ⟨b, o, ha, fun j x hj => by rw [hb.cell (block_of_cell (k j x hj))]; exact k j x hj⟩

theorem entsWd_below {w w' : World} {v : Value} {es : List EntM} (h : EntsWd w v es) (hb : Below w.heap.size w w') : EntsWd w' v es := by
  obtain ⟨h1, A, C, hv, h2⟩ := h
  refine ⟨h1, A, C, hv, ?_⟩
  rcases h2 with k | ⟨b, o, ha, k⟩
  · exact .inl k
  · exact .inr ⟨b, o, ha, fun j e hj => by
      obtain ⟨g1, g2, u, g3, g4⟩ := k j e hj
      exact ⟨g1, g2, u, rangeAt_below g3 hb, intsWd_below g4 hb⟩⟩

theorem msgWd_below {w w' : World} {ev mv : Value} {m : MsgM} (h : MsgW w ev mv m) (hb : Below w.heap.size w w') : MsgW w' ev mv m := by
  obtain ⟨h1, h2, h3⟩ := h
  exact ⟨entsWd_below h1 hb, intsWd_below h2 hb, h3⟩

theorem msgWd_len {w : World} {ev mv : Value} {m : MsgM} (h : MsgW w ev mv m) : (∃ a c, ev = .slice a m.es.length c) ∧ ∃ a c, mv = .slice a m.sn.ms.length c := by
  obtain ⟨h1, h2, _⟩ := h
  obtain ⟨_, a, c, hv, _⟩ := h1
  exact ⟨⟨a, c, hv⟩, intsWd_len h2⟩

theorem yesWd_len (b : Bool) : (yesW b).length = 1 := layS_len _ _

theorem msgLen_small {m : MsgM} (h : okMB m = true) : 25 ≤ (msgW m).length ∧ (msgW m).length ≤ 200000 := by
  obtain ⟨h1, h2, h3, h4, h5, h6, h7⟩ := okMB_parts h
  obtain ⟨kd, fr, tq, tm, ix, lt, cm, yes, es, ⟨si, st, ms, sd⟩⟩ := m
  unfold entsB at h5
  unfold snpB memsB at h6
  simp only [Bool.and_eq_true, decide_eq_true_eq] at h5 h6
  have h8 := entsW_len es (fun e he => by have := h5.2; rw [List.all_eq_true] at this; exact this e he)
  unfold msgW bodyW snpW txtW lstW
  dsimp only at h6 ⊢
  simp only [List.length_append, intsW_len, layS_len, List.length_cons, List.length_nil]
  split
  · simp only [intsW_len, List.length_cons, List.length_nil]; omega
  split
  · rw [yesWd_len]; omega
  split
  · simp only [List.length_append, intsW_len, layS_len, List.length_cons, List.length_nil]; omega
  split
  · simp only [List.length_append, intsW_len, yesWd_len, List.length_cons, List.length_nil]; omega
  split
  · simp only [List.length_append, intsW_len, layS_len, size_data, List.length_cons, List.length_nil]; omega
  · simp only [List.length_nil]; omega

/-- b[:t] of bytes whose place is known. -/
theorem slice_to3 {P : Program} {T : TypeId} (ht : P.underlying T = some (.slice (P.elem T))) (hs : (P.info? (P.elem T)).map (·.size) = some 1) (b o len cap t : Nat) (h : t ≤ cap) :
    ∀ W, (Instr.slice T (.slice (some ⟨b, o, none⟩) len cap) none (some (.int .i64 (t : Int))) none).run P W = .ok (.slice (some ⟨b, o, none⟩) t cap) W := fun W => by
  rw [run_slice_h W T (some ⟨b, o, none⟩) len cap ht .i64 t (by omega) (by omega), run_size1 hs]
  by_cases hc : cap = 0
  · simp [Result.andThen, sliced, hc]
  · simp [Result.andThen, sliced, Addr.add_mid, hc]

theorem byteSl_first {w : World} {B N cap : Nat} {ad : Addr} {l : List UInt8} (h : ByteSl w B (.slice (some ad) N cap) l) (t : Nat) (ht : t ≤ N) : N ≤ cap ∧ ByteSl w B (.slice (some ad) t cap) (l.take t) := by
  rcases h with ⟨h, _⟩ | ⟨ad2, c, hv, hc, hl⟩
  · cases h
  · injection hv with e1 e2 e3
    cases e1
    subst e2 e3
    refine ⟨hc, .inr ⟨ad, cap, by rw [List.length_take, Nat.min_eq_left ht], by rw [List.length_take]; omega, ?_⟩⟩
    rcases hl with h | ⟨b, o, ha, hb, h⟩
    · exact .inl (by rw [h]; simp)
    · refine .inr ⟨b, o, ha, hb, fun j x hj => ?_⟩
      rw [List.getElem?_take] at hj
      split at hj
      · exact h j x hj
      · cases hj

theorem codW_no {m : MsgM} (h : okMB m = false) : encW m = [] ∧ codW m = 1 := ⟨by unfold encW; rw [if_neg (by rw [h]; decide)], by unfold codW; rw [if_neg (by rw [h]; decide)]⟩

theorem codW_yes {m : MsgM} (h : okMB m = true) : encW m = msgW m ∧ codW m = 0 := ⟨by unfold encW; rw [if_pos h], by unfold codW; rw [if_pos h]⟩

theorem decC_no {l : List UInt8} (h : goodR l = false) : decR l = zeroMs ∧ decC l = 7 := by
  unfold decR decC
  rw [if_neg (by rw [h]; decide), if_neg (by rw [h]; decide)]
  exact ⟨rfl, rfl⟩

theorem decC_yes {l : List UInt8} (h : goodR l = true) : decC l = 0 := by unfold decC; rw [if_pos h]

theorem decV_zero {w w' : World} {e : Ending} {l : List UInt8} (h : goodR l = false) (hd : DecV w w' e l) : (∃ ea ec ma mc, e = .returned (.tuple #[.agg #[.int .i64 0, .int .i64 0, .int .i64 0, .int .i64 0, .int .i64 0, .int .i64 0, .int .i64 0, .bool false, .slice ea 0 ec, .int .i64 0, .int .i64 0, .slice ma 0 mc, .string ⟨#[]⟩], .int .i64 7])) ∧ Below w.heap.size w w' := by
  obtain ⟨ev, mv, rfl, ho, hb⟩ := hd
  obtain ⟨e1, e2⟩ := decC_no h
  rw [e1] at ho
  obtain ⟨ea, ec, rfl, _⟩ := (msgOwn_at ho).1
  obtain ⟨ma, mc, rfl⟩ := intsAt_len (msgOwn_at ho).2.2
  exact ⟨⟨ea, ec, ma, mc, by rw [e1, e2]; rfl⟩, hb⟩

end Go.Proofs.Ytpbdilbimpnmjaa
