/- Contracts: the reference: lists, entries, snapshots held against each other. -/
import Derived.BigRegion
import Derived.Deep.RegionHeld3
import Derived.BigQuiet
import Derived.Deep.QuietTactic
import Derived.Stop.BytesEq
import Derived.Test.YthpljpbiamjmaaaProg
import Derived.Test.YthpljpbiamjmaaaKit
import Derived.Test.YthpljpbiamjmaaaRow
import Derived.Test.YthpljpbiamjmaaaCod7
import Derived.Test.YthpljpbiamjmaaaKp0
import Derived.Test.YthpljpbiamjmaaaKp6
import Derived.Test.YthpljpbiamjmaaaMg2
namespace Go.Proofs.Ythpljpbiamjmaaa
open Go.RowKit Go.Proofs

theorem ints_ne_at {l m : List Int} {k : Nat} {x y : Int} (hx : l[k]? = some x) (hy : m[k]? = some y) (h : x ≠ y) : (l == m) = false := by
  rw [beq_eq_false_iff_ne]
  rintro rfl
  rw [hx] at hy
  exact h (Option.some.inj hy)

theorem sameInts_any (l m : List Int) (v1 v2 : Value) (w : World) (h1 : IntsAt w v1 l) (h2 : IntsAt w v2 m) :
    Calls Try.prog 48 #[v1, v2] w fun e w' => e = .returned (.bool (l == m)) ∧ Drew w w' := by
  obtain ⟨a1, c1, rfl⟩ := intsAt_len h1
  obtain ⟨a2, c2, rfl⟩ := intsAt_len h2
  obtain ⟨n, hn⟩ : ∃ n, n = l.length := ⟨_, rfl⟩
  obtain ⟨n2, hn2⟩ : ∃ n, n = m.length := ⟨_, rfl⟩
  rw [← hn] at h1 ⊢
  rw [← hn2] at h2 ⊢
  have K1 := Lib.hid h1
  have K2 := Lib.hid h2
  have HN := Lib.hid hn
  have HN2 := Lib.hid hn2
  clear h1 h2 hn hn2
  by_cases hlen : n = n2
  case neg =>
    have hnn : ((n : Int) != (n2 : Int)) = true := by rw [bne_iff_ne]; omega
    have HF : Hid ((l == m) = false) := Lib.hid (by
      rw [beq_eq_false_iff_ne]
      rintro rfl
      exact hlen (HN.out.trans HN2.out.symm))
    clear hlen
    go_enter Try.func48, Try.ntmps48
    go_wp2
    go_ret
    exact ⟨by rw [HF.out]; rfl, ⟨0, rfl⟩⟩
  subst hlen
  have hnn : ((n : Int) != (n : Int)) = false := by simp
  go_enter Try.func48, Try.ntmps48
  go_wp2
  go_loopw [5] (fun i wr => ∃ k : Nat, k ≤ n ∧ i = .int .i64 k ∧ Hid (l.take k = m.take k) ∧ Hid (Drew w wr)) (fun i _ => n - (intOf i).toNat)
  case atStart => exact ⟨0, by omega, rfl, Lib.hid (by simp), Lib.hid ⟨0, rfl⟩⟩
  case round =>
    obtain ⟨k, hk, rfl, HE, HD⟩ := hrel
    obtain ⟨w1, hw1⟩ : ∃ w1 : World, w1 = wr := ⟨_, rfl⟩
    subst hw1
    by_cases hlt : k < n
    · obtain ⟨x, hx⟩ : ∃ x, l[k]? = some x := ⟨_, List.getElem?_eq_getElem (by rw [← HN.out]; exact hlt)⟩
      obtain ⟨y, hy⟩ : ∃ y, m[k]? = some y := ⟨_, List.getElem?_eq_getElem (by rw [← HN2.out]; exact hlt)⟩
      obtain ⟨b1, o1, rfl, hb1⟩ := ints_cell K1.out hx
      obtain ⟨b2, o2, rfl, hb2⟩ := ints_cell K2.out hy
      have hcell : ∀ q, w1.cell? q = w.cell? q := by obtain ⟨d, hd⟩ := HD.out; intro q; rw [hd]; rfl
      have d1 : w1.cell? ⟨b1, o1 + k, none⟩ = some (.int .i64 x) := (hcell _).trans hb1
      have d2 : w1.cell? ⟨b2, o2 + k, none⟩ = some (.int .i64 y) := (hcell _).trans hb2
      have hyk : (k : Int) < (n : Int) := by omega
      have hk1 : (k : Int) < 1000000 := by have h1 := K1.out.1; have := HN.out; omega
      have HKL := Lib.hid hlt
      by_cases hxy : x = y
      · have hq : (x != y) = false := by rw [hxy]; simp
        have HE2 : Hid (l.take (k + 1) = m.take (k + 1)) := Lib.hid (by rw [take_succ_of hx, take_succ_of hy, HE.out, hxy])
        clear hx hy hb1 hb2 hcell hk hxy
        go_wp2_with fail
        go_quiet (fail)
        go_wp2
        go_roundw
        case rel => exact ⟨k + 1, by have := HKL.out; omega, by go_num, HE2, Lib.hid (Drew.more HD.out _)⟩
        case measure => have := HKL.out; simp [intOf]; omega
      · have hq : (x != y) = true := by rw [bne_iff_ne]; exact hxy
        have HF := Lib.hid (ints_ne_at hx hy hxy)
        clear hx hy hb1 hb2 hcell hk hxy
        go_wp2_with fail
        go_quiet (fail)
        go_wp2
        go_ret
        exact ⟨by rw [HF.out]; rfl, Drew.more HD.out _⟩
    · have HF : Hid ((l == m) = true) := Lib.hid (by
        have h := HE.out
        rw [List.take_of_length_le (by rw [← HN.out]; omega), List.take_of_length_le (by rw [← HN2.out]; omega)] at h
        rw [h]; simp)
      have hyk : ¬ (k : Int) < (n : Int) := by omega
      clear hlt hk
      go_wp2
      go_ret
      exact ⟨by rw [HF.out]; rfl, HD.out⟩

theorem str_iff (s u : ByteArray) : s.toList = u.toList ↔ s = u := ⟨fun h => by
  rw [ByteArray.toList_eq, ByteArray.toList_eq] at h
  rw [mk_list s h], fun h => by rw [h]⟩

def sameEB (x y : EntM) : Bool := x.ix == y.ix && x.tm == y.tm && x.kd == y.kd && x.d.toList == y.d.toList && x.ms == y.ms

theorem sameEB_iff (x y : EntM) : sameEB x y = true ↔ x = y := by
  obtain ⟨a, b, c, d, e⟩ := x
  obtain ⟨a2, b2, c2, d2, e2⟩ := y
  unfold sameEB
  simp only [Bool.and_eq_true, beq_iff_eq, EntM.mk.injEq, str_iff]
  constructor
  · rintro ⟨⟨⟨⟨h1, h2⟩, h3⟩, h4⟩, h5⟩; exact ⟨h1, h2, h3, h4, h5⟩
  · rintro ⟨h1, h2, h3, h4, h5⟩; exact ⟨⟨⟨⟨h1, h2⟩, h3⟩, h4⟩, h5⟩

def SameR {α : Type} (r : Bool) (x y : α) : Prop := r = true ↔ x = y

def RetS {α : Type} (e : Ending) (x y : α) : Prop := ∃ r, e = .returned (.bool r) ∧ SameR r x y

theorem same_no {α : Type} {x y : List α} {k : Nat} {a b : α} (hx : x[k]? = some a) (hy : y[k]? = some b) (h : a ≠ b) : SameR false x y := ⟨fun h => absurd h (by decide), fun e => by subst e; rw [hx] at hy; exact absurd (Option.some.inj hy) h⟩

theorem sameE_no {x y : EntM} (h : sameEB x y = false) : x ≠ y := fun e => by have := (sameEB_iff x y).2 e; rw [h] at this; cases this

set_option maxRecDepth 100000 in
set_option maxHeartbeats 4000000 in
theorem sameEntries_any (es fs : List EntM) (v1 v2 : Value) (w : World) (h1 : EntsAt w v1 es) (h2 : EntsAt w v2 fs) (hle : es.length ≤ 1000000) :
    Calls Try.prog 29 #[v1, v2] w fun e w' => RetS e es fs ∧ Below w.heap.size w w' := by
  obtain ⟨a1, c1, rfl, _⟩ := id h1
  obtain ⟨a2, c2, rfl, _⟩ := id h2
  obtain ⟨n, hn⟩ : ∃ n, n = es.length := ⟨_, rfl⟩
  obtain ⟨n2, hn2⟩ : ∃ n, n = fs.length := ⟨_, rfl⟩
  rw [← hn] at h1 ⊢
  rw [← hn2] at h2 ⊢
  have K1 := Lib.hid h1
  have K2 := Lib.hid h2
  have HN := Lib.hid hn
  have HN2 := Lib.hid hn2
  have HLE := Lib.hid hle
  clear h1 h2 hn hn2 hle
  by_cases hlen : n = n2
  case neg =>
    have hnn : ((n : Int) != (n2 : Int)) = true := by rw [bne_iff_ne]; omega
    have HF : Hid (SameR false es fs) := Lib.hid ⟨fun h => absurd h (by decide), fun e => by subst e; exact absurd (HN.out.trans HN2.out.symm) hlen⟩
    clear hlen
    go_enter Try.func29, Try.ntmps29
    go_wp2
    go_ret
    exact ⟨⟨_, rfl, HF.out⟩, Below.refl _ _⟩
  subst hlen
  have hnn : ((n : Int) != (n : Int)) = false := by simp
  have hz := zero_cells Try.infoEntz
  go_enter Try.func29, Try.ntmps29
  go_wp2
  go_loopw [5] (fun i wr => ∃ k : Nat, k ≤ n ∧ i = .int .i64 k ∧ Hid (es.take k = fs.take k) ∧ Hid (Below w.heap.size w wr)) (fun i _ => n - (intOf i).toNat)
  case atStart => exact ⟨0, by omega, rfl, Lib.hid (by simp), Lib.hid (Below.refl _ _)⟩
  case round =>
    obtain ⟨k, hk, rfl, HE, HD⟩ := hrel
    obtain ⟨w1, hw1⟩ : ∃ w1 : World, w1 = wr := ⟨_, rfl⟩
    subst hw1
    by_cases hlt : k < n
    · obtain ⟨x, hx⟩ : ∃ x, es[k]? = some x := ⟨_, List.getElem?_eq_getElem (by rw [← HN.out]; exact hlt)⟩
      obtain ⟨y, hy⟩ : ∃ y, fs[k]? = some y := ⟨_, List.getElem?_eq_getElem (by rw [← HN2.out]; exact hlt)⟩
      obtain ⟨b1, o1, u1, rfl, hr1, hu1⟩ := ents_cell (entsAt_below K1.out HD.out) hx
      obtain ⟨b2, o2, u2, rfl, hr2, hu2⟩ := ents_cell (entsAt_below K2.out HD.out) hy
      obtain ⟨ua, uc, rfl⟩ := intsAt_len hu1
      obtain ⟨ub, ud, rfl⟩ := intsAt_len hu2
      have HX := Lib.hid hx
      have HY := Lib.hid hy
      obtain ⟨eb, heb⟩ : ∃ eb, eb = sameEB x y := ⟨_, rfl⟩
      have HEB := Lib.hid heb
      obtain ⟨xi, xt, xk, xd, xm⟩ := x
      obtain ⟨yi, yt, yk, yd, ym⟩ := y
      dsimp only at hr1 hu1 hr2 hu2
      have heb2 : eb = (xi == yi && xt == yt && xk == yk && xd.toList == yd.toList && xm == ym) := heb
      obtain ⟨M, hM⟩ : ∃ M, M = xm.length := ⟨_, rfl⟩
      obtain ⟨M2, hM2⟩ : ∃ M, M = ym.length := ⟨_, rfl⟩
      have d0 : w1.cell? ⟨b1, o1 + k * 5, none⟩ = some (.int .i64 xi) := hr1 0 _ rfl
      have d1 : w1.cell? ⟨b1, o1 + k * 5 + 1, none⟩ = some (.int .i64 xt) := hr1 1 _ rfl
      have d2 : w1.cell? ⟨b1, o1 + k * 5 + 2, none⟩ = some (.int .i64 xk) := hr1 2 _ rfl
      have d3 : w1.cell? ⟨b1, o1 + k * 5 + 3, none⟩ = some (.string xd) := hr1 3 _ rfl
      have d4 : w1.cell? ⟨b1, o1 + k * 5 + 4, none⟩ = some (.slice ua M uc) := by rw [hM]; exact hr1 4 _ rfl
      have hb1 := below_more (Below.refl _ w1) (.cells #[.int .i64 xi, .int .i64 xt, .int .i64 xk, .string xd, .slice ua M uc] 46)
      have e0 : (w1.alloc (.cells #[.int .i64 xi, .int .i64 xt, .int .i64 xk, .string xd, .slice ua M uc] 46)).cell? ⟨b2, o2 + k * 5, none⟩ = some (.int .i64 yi) := kcell_more (hr2 0 _ rfl) _
      have e1 : (w1.alloc (.cells #[.int .i64 xi, .int .i64 xt, .int .i64 xk, .string xd, .slice ua M uc] 46)).cell? ⟨b2, o2 + k * 5 + 1, none⟩ = some (.int .i64 yt) := kcell_more (hr2 1 _ rfl) _
      have e2 : (w1.alloc (.cells #[.int .i64 xi, .int .i64 xt, .int .i64 xk, .string xd, .slice ua M uc] 46)).cell? ⟨b2, o2 + k * 5 + 2, none⟩ = some (.int .i64 yk) := kcell_more (hr2 2 _ rfl) _
      have e3 : (w1.alloc (.cells #[.int .i64 xi, .int .i64 xt, .int .i64 xk, .string xd, .slice ua M uc] 46)).cell? ⟨b2, o2 + k * 5 + 3, none⟩ = some (.string yd) := kcell_more (hr2 3 _ rfl) _
      have e4 : (w1.alloc (.cells #[.int .i64 xi, .int .i64 xt, .int .i64 xk, .string xd, .slice ua M uc] 46)).cell? ⟨b2, o2 + k * 5 + 4, none⟩ = some (.slice ub M2 ud) := by rw [hM2]; exact kcell_more (hr2 4 _ rfl) _
      have hb2 := below_more hb1 (.cells #[.int .i64 yi, .int .i64 yt, .int .i64 yk, .string yd, .slice ub M2 ud] 46)
      rw [← hM] at hu1
      rw [← hM2] at hu2
      have HSI := Lib.hid (sameInts_any xm ym _ _ _ (intsAt_below hu1 hb2) (intsAt_below hu2 hb2))
      have HB2 := Lib.hid (HD.out.trans (Below.mono hb2 HD.out.size))
      obtain ⟨mb, hmb⟩ : ∃ mb, mb = (xm == ym) := ⟨_, rfl⟩
      rw [← hmb] at HSI heb2
      have HEB2 := Lib.hid heb2
      have hyk : (k : Int) < (n : Int) := by omega
      have hk1 : (k : Int) < 1000000 := by have := HLE.out; have := HN.out; omega
      have HKL := Lib.hid hlt
      clear hx hy hr1 hr2 hu1 hu2 hb1 hb2 hM hM2 hk hlt heb heb2 hmb
      by_cases g0 : xi = yi
      case neg =>
        have HF := Lib.hid (same_no HX.out HY.out (sameE_no (by rw [← HEB.out, HEB2.out, show (xi == yi) = false from beq_eq_false_iff_ne.2 g0]; simp)))
        have q0 : (xi != yi) = true := by rw [bne_iff_ne]; exact g0
        clear g0
        go_wp2_with (first | (refine wpList_alloc_z rfl 46 rfl #[.int .i64 0, .int .i64 0, .int .i64 0, .string ⟨#[]⟩, .slice none 0 0] hz ?_) | fail)
        go_ret
        exact ⟨⟨_, rfl, HF.out⟩, HB2.out⟩
      have q0 : (xi != yi) = false := by rw [bne_eq_false_iff_eq]; exact g0
      have G0 := Lib.hid (show (xi == yi) = true from beq_iff_eq.2 g0)
      clear g0
      by_cases g1 : xt = yt
      case neg =>
        have HF := Lib.hid (same_no HX.out HY.out (sameE_no (by rw [← HEB.out, HEB2.out, show (xt == yt) = false from beq_eq_false_iff_ne.2 g1]; simp)))
        have q1 : (xt != yt) = true := by rw [bne_iff_ne]; exact g1
        clear g1
        go_wp2_with (first | (refine wpList_alloc_z rfl 46 rfl #[.int .i64 0, .int .i64 0, .int .i64 0, .string ⟨#[]⟩, .slice none 0 0] hz ?_) | fail)
        go_ret
        exact ⟨⟨_, rfl, HF.out⟩, HB2.out⟩
      have q1 : (xt != yt) = false := by rw [bne_eq_false_iff_eq]; exact g1
      have G1 := Lib.hid (show (xt == yt) = true from beq_iff_eq.2 g1)
      clear g1
      by_cases g2 : xk = yk
      case neg =>
        have HF := Lib.hid (same_no HX.out HY.out (sameE_no (by rw [← HEB.out, HEB2.out, show (xk == yk) = false from beq_eq_false_iff_ne.2 g2]; simp)))
        have q2 : (xk != yk) = true := by rw [bne_iff_ne]; exact g2
        clear g2
        go_wp2_with (first | (refine wpList_alloc_z rfl 46 rfl #[.int .i64 0, .int .i64 0, .int .i64 0, .string ⟨#[]⟩, .slice none 0 0] hz ?_) | fail)
        go_ret
        exact ⟨⟨_, rfl, HF.out⟩, HB2.out⟩
      have q2 : (xk != yk) = false := by rw [bne_eq_false_iff_eq]; exact g2
      have G2 := Lib.hid (show (xk == yk) = true from beq_iff_eq.2 g2)
      clear g2
      by_cases g3 : xd = yd
      case neg =>
        have HF := Lib.hid (same_no HX.out HY.out (sameE_no (by rw [← HEB.out, HEB2.out, show (xd.toList == yd.toList) = false from beq_eq_false_iff_ne.2 (fun e => g3 ((str_iff _ _).1 e))]; simp)))
        have q3 : (xd.toList == yd.toList) = false := by rw [beq_eq_false_iff_ne]; exact fun e => g3 ((str_iff _ _).1 e)
        clear g3
        go_wp2_with (first | (refine wpList_alloc_z rfl 46 rfl #[.int .i64 0, .int .i64 0, .int .i64 0, .string ⟨#[]⟩, .slice none 0 0] hz ?_) | fail)
        go_ret
        exact ⟨⟨_, rfl, HF.out⟩, HB2.out⟩
      have q3 : (xd.toList == yd.toList) = true := by rw [beq_iff_eq]; exact (str_iff _ _).2 g3
      have G3 := Lib.hid (show (xd.toList == yd.toList) = true from beq_iff_eq.2 ((str_iff _ _).2 g3))
      clear g3
      go_wp2_with (first | (refine wpList_alloc_z rfl 46 rfl #[.int .i64 0, .int .i64 0, .int .i64 0, .string ⟨#[]⟩, .slice none 0 0] hz ?_) | fail)
      refine (HSI.out).mono ?_
      rintro e w2 ⟨rfl, hd2⟩
      have HB3 := Lib.hid (below_draws HB2.out hd2)
      clear hd2
      cases mb with
      | false =>
        have HF := Lib.hid (same_no HX.out HY.out (sameE_no (by rw [← HEB.out, HEB2.out]; simp)))
        go_wp2_with fail
        go_ret
        exact ⟨⟨_, rfl, HF.out⟩, HB3.out⟩
      | true =>
        have HE2 : Hid (es.take (k + 1) = fs.take (k + 1)) := Lib.hid (by
          rw [take_succ_of HX.out, take_succ_of HY.out, HE.out, (sameEB_iff (⟨xi, xt, xk, xd, xm⟩ : EntM) ⟨yi, yt, yk, yd, ym⟩).1 (by rw [← HEB.out, HEB2.out, G0.out, G1.out, G2.out, G3.out]; rfl)])
        go_wp2_with fail
        go_roundw
        case rel => exact ⟨k + 1, by have := HKL.out; omega, by go_num, HE2, HB3⟩
        case measure => have := HKL.out; simp [intOf]; omega
    · have HF : Hid (SameR true es fs) := Lib.hid ⟨fun _ => by
        have h := HE.out
        rwa [List.take_of_length_le (by rw [← HN.out]; omega), List.take_of_length_le (by rw [← HN2.out]; omega)] at h, fun _ => rfl⟩
      have hyk : ¬ (k : Int) < (n : Int) := by omega
      clear hlt hk
      go_wp2_with fail
      go_ret
      exact ⟨⟨true, rfl, HF.out⟩, HD.out⟩

end Go.Proofs.Ythpljpbiamjmaaa
