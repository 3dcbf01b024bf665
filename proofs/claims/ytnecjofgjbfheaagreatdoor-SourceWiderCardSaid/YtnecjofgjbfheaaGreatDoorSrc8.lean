/- source: Parse. -/
import Derived.Test.YtnecjofgjbfheaaGreatDoorShelf
import Derived.BigQuiet
import Derived.BigRegion
import Derived.Test.YtnecjofgjbfheaaGreatDoorProg
import Derived.Test.YtnecjofgjbfheaaGreatDoorKit
import Derived.Test.YtnecjofgjbfheaaGreatDoorPlain
import Derived.Test.YtnecjofgjbfheaaGreatDoorStr
import Derived.Test.YtnecjofgjbfheaaGreatDoorAsc1
import Derived.Test.YtnecjofgjbfheaaGreatDoorAsc4
import Derived.Test.YtnecjofgjbfheaaGreatDoorRow
import Derived.Test.YtnecjofgjbfheaaGreatDoorFp
import Derived.Test.YtnecjofgjbfheaaGreatDoorMd1
import Derived.Test.YtnecjofgjbfheaaGreatDoorHst0
import Derived.Test.YtnecjofgjbfheaaGreatDoorUrl4
import Derived.Test.YtnecjofgjbfheaaGreatDoorUrr1
import Derived.Test.YtnecjofgjbfheaaGreatDoorOrg0
import Derived.Test.YtnecjofgjbfheaaGreatDoorSrc0
import Derived.Test.YtnecjofgjbfheaaGreatDoorSrc4
namespace Go.Proofs.YtnecjofgjbfheaaGreatDoor
open Go.RowKit Go.Proofs
set_option maxRecDepth 100000

def expV (e : ExpM) : Value := .agg #[.int .i64 e.ek, strL e.esc, strL e.eho, strL e.epo, strL e.epa]

theorem low_self : lowL selfQ = selfQ := by decide

theorem new_kept {w0 w1 w2 : World} {g : Nat} (h : Kept (fun _ => False) w0 w1) (hg : w1.heap.size ≤ g ∨ w0.heap.size ≤ g) (h2 : Kept (fun k => k = g) w1 w2) : Kept (fun _ => False) w0 w2 :=
  kept_then h h2 (fun x hx => .inr (by subst hx; have := h.size; omega))

theorem below_keep {w0 w1 w2 : World} (h : Kept (fun _ => False) w0 w1) (hb : Below w1.heap.size w1 w2) : Kept (fun _ => False) w0 w2 :=
  kept_then h (kept_below (F := fun _ => False) hb) (fun _ hx => hx.elim)

theorem same_below (a b : ByteArray) (ha : a.size ≤ 1073741824) (hb : b.size ≤ 1073741824) (w : World) :
    Calls Tryz.prog 31 #[.string a, .string b] w fun e w' => e = .returned (.bool (sameB a.data.toList b.data.toList)) ∧ Below w.heap.size w w' := by
  refine (same_any a b ha hb w).mono ?_
  rintro e w' ⟨rfl, m, rfl⟩
  exact ⟨rfl, below_draws (Below.refl _ _) ⟨m, rfl⟩⟩

theorem src_star {s : List UInt8} (h : s = [42]) : srcP s = ⟨1, [], [], [], []⟩ := by unfold srcP; rw [if_pos h]

theorem src_self {s : List UInt8} (h : s ≠ [42]) (h1 : lowL s = selfQ) : srcP s = ⟨2, [], [], [], []⟩ := by unfold srcP; rw [if_neg h, if_pos h1]

theorem src_quo {s : List UInt8} (h : s ≠ [42]) (h1 : lowL s ≠ selfQ) (h2 : quoB s = true) : srcP s = ⟨5, [], [], [], []⟩ := by unfold srcP; rw [if_neg h, if_neg h1, if_pos h2]

theorem src_sch {s : List UInt8} (h : s ≠ [42]) (h1 : lowL s ≠ selfQ) (h2 : quoB s = false) (h3 : 0 < schN s ∧ schN s + 1 = s.length) : srcP s = ⟨3, lowL (s.take (schN s)), [], [], []⟩ := by
  unfold srcP
  rw [if_neg h, if_neg h1, if_neg (by rw [h2]; simp), if_pos h3]

theorem src_with {s : List UInt8} (h : s ≠ [42]) (h1 : lowL s ≠ selfQ) (h2 : quoB s = false) (h3 : ¬ (0 < schN s ∧ schN s + 1 = s.length)) (h4 : 0 < schN s ∧ (s.drop (schN s)).take 3 = [58, 47, 47]) : srcP s = tailS (lowL (s.take (schN s))) (s.drop (schN s + 3)) := by
  unfold srcP
  rw [if_neg h, if_neg h1, if_neg (by rw [h2]; simp), if_neg h3, if_pos h4]

theorem src_bare {s : List UInt8} (h : s ≠ [42]) (h1 : lowL s ≠ selfQ) (h2 : quoB s = false) (h3 : ¬ (0 < schN s ∧ schN s + 1 = s.length)) (h4 : ¬ (0 < schN s ∧ (s.drop (schN s)).take 3 = [58, 47, 47])) : srcP s = tailS [] s := by
  unfold srcP
  rw [if_neg h, if_neg h1, if_neg (by rw [h2]; simp), if_neg h3, if_neg h4]

theorem beh_none {sc h r : List UInt8} (hm : prtN r = none) : behS sc h r = expZ := by unfold behS; rw [hm]

theorem beh_bad {sc h r : List UInt8} {m : Nat} (hm : prtN r = some m) (hp : spathB (r.drop m) = false) : behS sc h r = expZ := by unfold behS; rw [hm]; simp only [hp]; rfl

theorem beh_yes {sc h r : List UInt8} {m : Nat} (hm : prtN r = some m) (hp : spathB (r.drop m) = true) : behS sc h r = ⟨4, sc, lowL h, (r.take m).drop 1, r.drop m⟩ := by unfold behS; rw [hm]; simp only [hp]; rfl

/-- What ends a walk: the result's block is stored, all else is as it was. -/
theorem exp_end {w w0 W : World} (h0 : w0 = w.alloc (.cells #[.int .i64 0, .string ⟨#[]⟩, .string ⟨#[]⟩, .string ⟨#[]⟩, .string ⟨#[]⟩] 24)) (hk : Kept (fun _ => False) w0 W) (k : Int) (a b c d : ByteArray) :
    Rw (W.setCells w.heap.size 0 [.int .i64 k, .string a, .string b, .string c, .string d]) 0 w.heap.size 24 [.int .i64 k, .string a, .string b, .string c, .string d] ∧ Below w.heap.size w (W.setCells w.heap.size 0 [.int .i64 k, .string a, .string b, .string c, .string d]) := by
  have hz : Rw w0 0 w.heap.size 24 [.int .i64 0, .string ⟨#[]⟩, .string ⟨#[]⟩, .string ⟨#[]⟩, .string ⟨#[]⟩] := by rw [h0]; exact Rw.alloc w _ _ (Nat.zero_le _)
  have hb : Below w.heap.size w w0 := by rw [h0]; exact below_more (Below.refl _ _) _
  exact ⟨Rw.storedAll (rw_kept hz hk (fun x => x)) _ rfl, below_stores (below_then hb (below_kept hk)) (Nat.le_refl _) _⟩

set_option maxHeartbeats 8000000 in
theorem sparse_any (s : ByteArray) (hs : s.size ≤ 1048576) (w : World) :
    Calls Tryz.prog 11 #[.string s] w fun e w' => e = .returned (expV (srcP s.data.toList)) ∧ Below w.heap.size w w' := by
  have hz := zero_cells Tryz.infoExp
  obtain ⟨R, hR⟩ : ∃ R, R = srcP s.data.toList := ⟨_, rfl⟩
  rw [← hR]
  obtain ⟨w0, hw0⟩ : ∃ w0 : World, w0 = w.alloc (.cells #[.int .i64 0, .string ⟨#[]⟩, .string ⟨#[]⟩, .string ⟨#[]⟩, .string ⟨#[]⟩] 24) := ⟨_, rfl⟩
  have HW0 := Lib.hid hw0
  have HZ0 : Hid (Rw w0 0 w.heap.size 24 [.int .i64 0, .string ⟨#[]⟩, .string ⟨#[]⟩, .string ⟨#[]⟩, .string ⟨#[]⟩]) := Lib.hid (by rw [hw0]; exact Rw.alloc w _ _ (Nat.zero_le _))
  have HK0 : Hid (Kept (fun _ => False) w0 w0) := Lib.hid (kept_refl _ _)
  have HSM := Lib.hid (fun W => same_below s ⟨#[39, 115, 101, 108, 102, 39]⟩ (by omega) (by decide) W)
  have HQ := Lib.hid (fun W => squoted_any s (by omega) W)
  have hsm : sameB s.data.toList (⟨#[39, 115, 101, 108, 102, 39]⟩ : ByteArray).data.toList = decide (lowL s.data.toList = selfQ) := by
    show decide (lowL s.data.toList = lowL selfQ) = _
    rw [low_self]
  rw [hsm] at HSM
  clear hsm
  by_cases h42 : s.data.toList = [42]
  · have HRes : Hid (R = ⟨1, [], [], [], []⟩) := Lib.hid (hR.trans (src_star h42))
    have q := lit_yes h42
    clear hR h42
    go_enter Tryz.func11, Tryz.ntmps11
    go_wp2_with fail
    refine bodyPost_ret (v := expV ⟨1, [], [], [], []⟩) ?_ rfl ⟨by rw [HRes.out], below_more (Below.refl _ _) _⟩
    exact results_row1 rfl _ _ w.heap.size 0 24 [.int .i64 1, .string ⟨#[]⟩, .string ⟨#[]⟩, .string ⟨#[]⟩, .string ⟨#[]⟩] _ rfl (Rw.alloc w _ _ (Nat.zero_le _)) Tryz.underlying24 rfl Tryz.sizeExp
  have q := lit_no h42
  by_cases hself : lowL s.data.toList = selfQ
  · have HRes : Hid (R = ⟨2, [], [], [], []⟩) := Lib.hid (hR.trans (src_self h42 hself))
    rw [decide_eq_true hself] at HSM
    clear hR h42 hself
    go_enter Tryz.func11, Tryz.ntmps11
    go_wp2_with fail
    rw [← hw0]
    clear hw0
    refine (HSM.out _).mono ?_
    rintro e w1 ⟨rfl, hb1⟩
    have HK1 := Lib.hid (below_keep HK0.out hb1)
    clear hb1
    have hzr := rw_kept HZ0.out HK1.out (fun x => x)
    have z0 := Rw.cell hzr (j := 0) rfl
    have z1 := Rw.cell hzr (j := 1) rfl
    have z2 := Rw.cell hzr (j := 2) rfl
    have z3 := Rw.cell hzr (j := 3) rfl
    have z4 := Rw.cell hzr (j := 4) rfl
    have y0 := Rw.free hzr 0
    have y1 := Rw.free hzr 1
    have y2 := Rw.free hzr 2
    have y3 := Rw.free hzr 3
    have y4 := Rw.free hzr 4
    clear hzr
    go_wp2_with fail
    obtain ⟨E1, E2⟩ := exp_end HW0.out HK1.out 2 ⟨#[]⟩ ⟨#[]⟩ ⟨#[]⟩ ⟨#[]⟩
    refine bodyPost_ret (v := expV ⟨2, [], [], [], []⟩) ?_ rfl ⟨by rw [HRes.out] <;> rfl, E2⟩
    exact results_row1 rfl _ _ w.heap.size 0 24 [.int .i64 2, .string ⟨#[]⟩, .string ⟨#[]⟩, .string ⟨#[]⟩, .string ⟨#[]⟩] _ rfl E1 Tryz.underlying24 rfl Tryz.sizeExp
  rw [decide_eq_false hself] at HSM
  cases hquo : quoB s.data.toList
  case true =>
    have HRes : Hid (R = ⟨5, [], [], [], []⟩) := Lib.hid (hR.trans (src_quo h42 hself hquo))
    rw [hquo] at HQ
    clear hR h42 hself hquo
    go_enter Tryz.func11, Tryz.ntmps11
    go_wp2_with fail
    rw [← hw0]
    clear hw0
    refine (HSM.out _).mono ?_
    rintro e w1 ⟨rfl, hb1⟩
    have HK1 := Lib.hid (below_keep HK0.out hb1)
    clear hb1
    go_wp2_with fail
    refine (HQ.out _).mono ?_
    rintro e w2 ⟨rfl, rfl⟩
    have hzr := rw_kept HZ0.out HK1.out (fun x => x)
    have z0 := Rw.cell hzr (j := 0) rfl
    have z1 := Rw.cell hzr (j := 1) rfl
    have z2 := Rw.cell hzr (j := 2) rfl
    have z3 := Rw.cell hzr (j := 3) rfl
    have z4 := Rw.cell hzr (j := 4) rfl
    have y0 := Rw.free hzr 0
    have y1 := Rw.free hzr 1
    have y2 := Rw.free hzr 2
    have y3 := Rw.free hzr 3
    have y4 := Rw.free hzr 4
    clear hzr
    go_wp2_with fail
    obtain ⟨E1, E2⟩ := exp_end HW0.out HK1.out 5 ⟨#[]⟩ ⟨#[]⟩ ⟨#[]⟩ ⟨#[]⟩
    refine bodyPost_ret (v := expV ⟨5, [], [], [], []⟩) ?_ rfl ⟨by rw [HRes.out] <;> rfl, E2⟩
    exact results_row1 rfl _ _ w.heap.size 0 24 [.int .i64 5, .string ⟨#[]⟩, .string ⟨#[]⟩, .string ⟨#[]⟩, .string ⟨#[]⟩] _ rfl E1 Tryz.underlying24 rfl Tryz.sizeExp
  case false =>
    rw [hquo] at HQ
    have HN := Lib.hid (fun W => snew_any s W)
    have HS := Lib.hid hs
    by_cases h3 : 0 < schN s.data.toList ∧ schN s.data.toList + 1 = s.data.toList.length
    · have hst := schN_t h3.1
      obtain ⟨x, hx⟩ : ∃ x : ByteArray, x = ⟨(lowL (s.data.toList.take (schT s.data.toList))).toArray⟩ := ⟨_, rfl⟩
      have HXS : Hid (strL (lowL (s.data.toList.take (schT s.data.toList))) = .string x) := Lib.hid (by rw [hx]; rfl)
      have HRes : Hid (R = ⟨3, x.data.toList, [], [], []⟩) := Lib.hid (by rw [hR, src_sch h42 hself hquo h3, hst, hx])
      have HF1 : Hid ((letH s.data.toList && (⟨#[58]⟩ : ByteArray).data.toList.isPrefixOf (s.data.toList.drop (schT s.data.toList))) = true) := Lib.hid (by
        show (letH s.data.toList && ([58] : List UInt8).isPrefixOf (s.data.toList.drop (schT s.data.toList))) = true
        rw [sch_one, decide_eq_true h3.1])
      obtain ⟨d, hd⟩ : ∃ d : ByteArray, d = ⟨(s.data.toList.drop (schT s.data.toList + 1)).toArray⟩ := ⟨_, rfl⟩
      have HD1 : Hid (s.data.toList.drop (schT s.data.toList + (⟨#[58]⟩ : ByteArray).size) = d.data.toList) := Lib.hid (by rw [hd]; rfl)
      have HD2 : Hid (decide (d.data.toList = []) = true) := Lib.hid (decide_eq_true (by rw [hd]; exact List.drop_of_length_le (by rw [← hst]; omega)))
      clear hR h42 hself hquo h3 hst hx hd hs
      go_enter Tryz.func11, Tryz.ntmps11
      go_wp2_with fail
      rw [← hw0]
      clear hw0
      refine (HSM.out _).mono ?_
      rintro e w1 ⟨rfl, hb1⟩
      have HK1 := Lib.hid (below_keep HK0.out hb1)
      clear hb1
      go_wp2_with fail
      refine (HQ.out _).mono ?_
      rintro e w2 ⟨rfl, rfl⟩
      go_wp2_with fail
      refine (HN.out _).mono ?_
      rintro e w3 ⟨rfl, hr3, hb3⟩
      have HK3 := Lib.hid (below_keep HK1.out hb3)
      obtain ⟨g1, hg1⟩ : ∃ g1, g1 = w2.heap.size := ⟨_, rfl⟩
      rw [← hg1] at hr3 ⊢
      have HG1 : Hid (w0.heap.size ≤ g1) := Lib.hid (by rw [hg1]; exact HK1.out.size)
      clear hb3 hg1
      have HX := Lib.hid (sscheme_yes s ⟨#[58]⟩ HS.out hr3 HF1.out)
      rw [HD1.out] at HX
      clear hr3
      go_wp2_with fail
      refine HX.out.mono ?_
      rintro e w4 ⟨rfl, hv4⟩
      have HK4 := Lib.hid (new_kept HK3.out (.inr HG1.out) hv4.2)
      have hrow := hv4.1
      rw [strL_data] at hrow
      have HE := Lib.hid (send_any d hrow)
      rw [HD2.out] at HE
      have HV4 := Lib.hid hv4.1
      clear hv4 hrow
      go_wp2_with fail
      refine HE.out.mono ?_
      rintro e w5 ⟨rfl, rfl⟩
      have hrow := HV4.out
      rw [HXS.out] at hrow
      have HXP := Lib.hid (sexpr_any (kind := 3) hrow)
      clear hrow
      go_wp2_with fail
      refine HXP.out.mono ?_
      rintro e w6 ⟨rfl, hb6⟩
      have HK6 := Lib.hid (below_keep HK4.out hb6)
      clear hb6
      have hzr := rw_kept HZ0.out HK6.out (fun x => x)
      have z0 := Rw.cell hzr (j := 0) rfl
      have z1 := Rw.cell hzr (j := 1) rfl
      have z2 := Rw.cell hzr (j := 2) rfl
      have z3 := Rw.cell hzr (j := 3) rfl
      have z4 := Rw.cell hzr (j := 4) rfl
      have y0 := Rw.free hzr 0
      have y1 := Rw.free hzr 1
      have y2 := Rw.free hzr 2
      have y3 := Rw.free hzr 3
      have y4 := Rw.free hzr 4
      clear hzr
      go_wp2_with fail
      obtain ⟨E1, E2⟩ := exp_end HW0.out HK6.out 3 x ⟨#[]⟩ ⟨#[]⟩ ⟨#[]⟩
      refine bodyPost_ret (v := expV ⟨3, x.data.toList, [], [], []⟩) ?_ rfl ⟨by rw [HRes.out] <;> rfl, E2⟩
      exact results_row1 rfl _ _ w.heap.size 0 24 [.int .i64 3, .string x, .string ⟨#[]⟩, .string ⟨#[]⟩, .string ⟨#[]⟩] _ rfl E1 Tryz.underlying24 rfl Tryz.sizeExp
    by_cases h4 : 0 < schN s.data.toList ∧ (s.data.toList.drop (schN s.data.toList)).take 3 = [58, 47, 47]
    · have hst := schN_t h4.1
      obtain ⟨t, ht⟩ : ∃ t : ByteArray, t = ⟨(s.data.toList.drop (schT s.data.toList + 3)).toArray⟩ := ⟨_, rfl⟩
      obtain ⟨sc, hsc⟩ : ∃ sc : ByteArray, sc = ⟨(lowL (s.data.toList.take (schT s.data.toList))).toArray⟩ := ⟨_, rfl⟩
      have HT1 : Hid (s.data.toList.drop (schT s.data.toList + (⟨#[58, 47, 47]⟩ : ByteArray).size) = t.data.toList) := Lib.hid (by rw [ht]; rfl)
      have HT2 : Hid (lowL (s.data.toList.take (schT s.data.toList)) = sc.data.toList) := Lib.hid (by rw [hsc])
      have HTS : Hid (t.size ≤ 1048576) := Lib.hid (by rw [← size_data, ← HT1.out, List.length_drop, size_data]; omega)
      have HRT : Hid (R = tailS sc.data.toList t.data.toList) := Lib.hid (by rw [hR, src_with h42 hself hquo h3 h4, hst, HT2.out, ← HT1.out]; rfl)
      have HF1 : Hid ((letH s.data.toList && (⟨#[58]⟩ : ByteArray).data.toList.isPrefixOf (s.data.toList.drop (schT s.data.toList))) = true) := Lib.hid (by
        show (letH s.data.toList && ([58] : List UInt8).isPrefixOf (s.data.toList.drop (schT s.data.toList))) = true
        rw [sch_one, decide_eq_true h4.1])
      have HF2 : Hid ((letH s.data.toList && (⟨#[58, 47, 47]⟩ : ByteArray).data.toList.isPrefixOf (s.data.toList.drop (schT s.data.toList))) = true) := Lib.hid (by
        show (letH s.data.toList && ([58, 47, 47] : List UInt8).isPrefixOf (s.data.toList.drop (schT s.data.toList))) = true
        rw [sch_three, decide_eq_true h4])
      obtain ⟨d, hd⟩ : ∃ d : ByteArray, d = ⟨(s.data.toList.drop (schT s.data.toList + 1)).toArray⟩ := ⟨_, rfl⟩
      have HD1 : Hid (s.data.toList.drop (schT s.data.toList + (⟨#[58]⟩ : ByteArray).size) = d.data.toList) := Lib.hid (by rw [hd]; rfl)
      have HD2 : Hid (decide (d.data.toList = []) = false) := Lib.hid (decide_eq_false (by
        rw [hd]
        intro e
        have h5 := congrArg List.length h4.2
        rw [List.length_take, List.length_drop, hst] at h5
        have h6 := congrArg List.length e
        rw [List.length_drop] at h6
        simp at h5 h6
        omega))
      clear hR h42 hself hquo h3 h4 hst ht hsc hd hs
      go_enter Tryz.func11, Tryz.ntmps11
      go_wp2_with fail
      rw [← hw0]
      clear hw0
      refine (HSM.out _).mono ?_
      rintro e w1 ⟨rfl, hb1⟩
      have HK1 := Lib.hid (below_keep HK0.out hb1)
      clear hb1
      go_wp2_with fail
      refine (HQ.out _).mono ?_
      rintro e w2 ⟨rfl, rfl⟩
      go_wp2_with fail
      refine (HN.out _).mono ?_
      rintro e w3 ⟨rfl, hr3, hb3⟩
      have HK3 := Lib.hid (below_keep HK1.out hb3)
      obtain ⟨g1, hg1⟩ : ∃ g1, g1 = w2.heap.size := ⟨_, rfl⟩
      rw [← hg1] at hr3 ⊢
      have HG1 : Hid (w0.heap.size ≤ g1) := Lib.hid (by rw [hg1]; exact HK1.out.size)
      clear hb3 hg1
      have HX := Lib.hid (sscheme_yes s ⟨#[58]⟩ HS.out hr3 HF1.out)
      rw [HD1.out] at HX
      clear hr3
      go_wp2_with fail
      refine HX.out.mono ?_
      rintro e w4 ⟨rfl, hv4⟩
      have HK4 := Lib.hid (new_kept HK3.out (.inr HG1.out) hv4.2)
      have hrow := hv4.1
      rw [strL_data] at hrow
      have HE := Lib.hid (send_any d hrow)
      rw [HD2.out] at HE
      have HV4 := Lib.hid hv4.1
      clear hv4 hrow
      go_wp2_with fail
      refine HE.out.mono ?_
      rintro e w5 ⟨rfl, rfl⟩
      go_wp2_with fail
      refine (HN.out _).mono ?_
      rintro e w7 ⟨rfl, hr7, hb7⟩
      have HK7 := Lib.hid (below_keep HK4.out hb7)
      obtain ⟨g2, hg2⟩ : ∃ g2, g2 = w5.heap.size := ⟨_, rfl⟩
      rw [← hg2] at hr7 ⊢
      have HG2 : Hid (w0.heap.size ≤ g2) := Lib.hid (by rw [hg2]; exact HK4.out.size)
      clear hb7 hg2
      have HX2 := Lib.hid (sscheme_yes s ⟨#[58, 47, 47]⟩ HS.out hr7 HF2.out)
      clear hr7
      go_wp2_with fail
      refine HX2.out.mono ?_
      rintro e w8 ⟨rfl, hv8⟩
      have HK8 := Lib.hid (new_kept HK7.out (.inr HG2.out) hv8.2)
      have hrow := hv8.1
      rw [HT1.out, HT2.out, strL_data, strL_data] at hrow
      have HHO := Lib.hid (shost_any t HTS.out hrow)
      clear hv8 hrow
      by_cases hok : okH (t.data.toList.take (hosK t.data.toList)) = true
      · rw [hok] at HHO
        obtain ⟨r, hr⟩ : ∃ r : ByteArray, r = ⟨(t.data.toList.drop (hosK t.data.toList)).toArray⟩ := ⟨_, rfl⟩
        have hrl : r.data.toList = t.data.toList.drop (hosK t.data.toList) := by rw [hr]
        have hrs : r.size ≤ 1048576 := by rw [← size_data, hrl, List.length_drop, size_data]; have := HTS.out; omega
        obtain ⟨ho, hho⟩ : ∃ ho : ByteArray, ho = ⟨(lowL (t.data.toList.take (hosK t.data.toList))).toArray⟩ := ⟨_, rfl⟩
        have HHS : Hid (strL (lowL (t.data.toList.take (hosK t.data.toList))) = .string ho) := Lib.hid (by rw [hho]; rfl)
        have HR1 : Hid (R = behS sc.data.toList (t.data.toList.take (hosK t.data.toList)) r.data.toList) := Lib.hid (by rw [HRT.out, tail_code, if_pos hok, hrl])
        have HHL : Hid (lowL (t.data.toList.take (hosK t.data.toList)) = ho.data.toList) := Lib.hid (by rw [hho])
        have HRS := Lib.hid hrs
        rw [← hrl] at HHO
        rw [HHS.out] at HHO
        clear hr hrl hok hho hrs
        go_wp2_with fail
        refine HHO.out.mono ?_
        rintro e w9 ⟨rfl, hv9⟩
        have HK9 := Lib.hid (new_kept HK8.out (.inr HG2.out) hv9.2)
        have hrow := hv9.1
        rw [strL_data] at hrow
        have HPO := Lib.hid (sport_any r HRS.out hrow)
        clear hv9 hrow
        cases hm : prtN r.data.toList with
        | none =>
          have HRes : Hid (R = expZ) := Lib.hid (by rw [HR1.out, beh_none hm])
          have HM := Lib.hid hm
          clear hm
          go_wp2_with fail
          refine HPO.out.mono ?_
          rintro e w10 ⟨he, r2, p2, hv10, _⟩
          rw [HM.out] at he
          subst he
          have HK10 := Lib.hid (new_kept HK9.out (.inr HG2.out) hv10.2)
          clear hv10
          rw [show (none : Option Nat).isSome = false from rfl]
          have hzr := rw_kept HZ0.out HK10.out (fun x => x)
          have z0 := Rw.cell hzr (j := 0) rfl
          have z1 := Rw.cell hzr (j := 1) rfl
          have z2 := Rw.cell hzr (j := 2) rfl
          have z3 := Rw.cell hzr (j := 3) rfl
          have z4 := Rw.cell hzr (j := 4) rfl
          have y0 := Rw.free hzr 0
          have y1 := Rw.free hzr 1
          have y2 := Rw.free hzr 2
          have y3 := Rw.free hzr 3
          have y4 := Rw.free hzr 4
          clear hzr
          go_wp2_with fail
          obtain ⟨E1, E2⟩ := exp_end HW0.out HK10.out 0 ⟨#[]⟩ ⟨#[]⟩ ⟨#[]⟩ ⟨#[]⟩
          refine bodyPost_ret (v := expV ⟨0, [], [], [], []⟩) ?_ rfl ⟨by rw [HRes.out] <;> rfl, E2⟩
          exact results_row1 rfl _ _ w.heap.size 0 24 [.int .i64 0, .string ⟨#[]⟩, .string ⟨#[]⟩, .string ⟨#[]⟩, .string ⟨#[]⟩] _ rfl E1 Tryz.underlying24 rfl Tryz.sizeExp
        | some m =>
          have HM := Lib.hid hm
          obtain ⟨pa, hpa⟩ : ∃ pa : ByteArray, pa = ⟨(r.data.toList.drop m).toArray⟩ := ⟨_, rfl⟩
          have HPL : Hid (r.data.toList.drop m = pa.data.toList) := Lib.hid (by rw [hpa])
          have HPS : Hid (pa.size ≤ 1048576) := Lib.hid (by rw [← size_data, ← HPL.out, List.length_drop, size_data]; have := HRS.out; omega)
          obtain ⟨po, hpo⟩ : ∃ po : ByteArray, po = ⟨((r.data.toList.take m).drop 1).toArray⟩ := ⟨_, rfl⟩
          have HOL : Hid ((r.data.toList.take m).drop 1 = po.data.toList) := Lib.hid (by rw [hpo])
          clear hm hpa hpo
          go_wp2_with fail
          refine HPO.out.mono ?_
          rintro e w10 ⟨he, r2, p2, hv10, hrp⟩
          rw [HM.out] at he
          subst he
          obtain ⟨e1, e2⟩ := hrp m HM.out
          subst e1 e2
          have HK10 := Lib.hid (new_kept HK9.out (.inr HG2.out) hv10.2)
          have hrow := hv10.1
          rw [HPL.out, HOL.out, strL_data, strL_data] at hrow
          have HPA := Lib.hid (spath_any pa HPS.out hrow)
          clear hv10 hrow hrp
          rw [show (some m : Option Nat).isSome = true from rfl]
          cases hp : spathB pa.data.toList
          · have HRes : Hid (R = expZ) := Lib.hid (by rw [HR1.out, beh_bad HM.out (by rw [HPL.out]; exact hp)])
            have HP := Lib.hid hp
            clear hp
            go_wp2_with fail
            refine HPA.out.mono ?_
            rintro e w11 ⟨he, r3, p3, hv11, _⟩
            rw [HP.out] at he
            subst he
            have HK11 := Lib.hid (new_kept HK10.out (.inr HG2.out) hv11.2)
            clear hv11
            have hzr := rw_kept HZ0.out HK11.out (fun x => x)
            have z0 := Rw.cell hzr (j := 0) rfl
            have z1 := Rw.cell hzr (j := 1) rfl
            have z2 := Rw.cell hzr (j := 2) rfl
            have z3 := Rw.cell hzr (j := 3) rfl
            have z4 := Rw.cell hzr (j := 4) rfl
            have y0 := Rw.free hzr 0
            have y1 := Rw.free hzr 1
            have y2 := Rw.free hzr 2
            have y3 := Rw.free hzr 3
            have y4 := Rw.free hzr 4
            clear hzr
            go_wp2_with fail
            obtain ⟨E1, E2⟩ := exp_end HW0.out HK11.out 0 ⟨#[]⟩ ⟨#[]⟩ ⟨#[]⟩ ⟨#[]⟩
            refine bodyPost_ret (v := expV ⟨0, [], [], [], []⟩) ?_ rfl ⟨by rw [HRes.out] <;> rfl, E2⟩
            exact results_row1 rfl _ _ w.heap.size 0 24 [.int .i64 0, .string ⟨#[]⟩, .string ⟨#[]⟩, .string ⟨#[]⟩, .string ⟨#[]⟩] _ rfl E1 Tryz.underlying24 rfl Tryz.sizeExp
          · have HRes : Hid (R = ⟨4, sc.data.toList, ho.data.toList, po.data.toList, pa.data.toList⟩) := Lib.hid (by rw [HR1.out, beh_yes HM.out (by rw [HPL.out]; exact hp), HHL.out, HOL.out, HPL.out])
            have HP := Lib.hid hp
            clear hp
            go_wp2_with fail
            refine HPA.out.mono ?_
            rintro e w11 ⟨he, r3, p3, hv11, hp3⟩
            rw [HP.out] at he
            subst he
            have e3 := hp3 HP.out
            subst e3
            have HK11 := Lib.hid (new_kept HK10.out (.inr HG2.out) hv11.2)
            have hrow := hv11.1
            rw [strL_data pa] at hrow
            have HXP := Lib.hid (sexpr_any (kind := 4) hrow)
            clear hv11 hrow hp3
            go_wp2_with fail
            refine HXP.out.mono ?_
            rintro e w12 ⟨rfl, hb12⟩
            have HK12 := Lib.hid (below_keep HK11.out hb12)
            clear hb12
            have hzr := rw_kept HZ0.out HK12.out (fun x => x)
            have z0 := Rw.cell hzr (j := 0) rfl
            have z1 := Rw.cell hzr (j := 1) rfl
            have z2 := Rw.cell hzr (j := 2) rfl
            have z3 := Rw.cell hzr (j := 3) rfl
            have z4 := Rw.cell hzr (j := 4) rfl
            have y0 := Rw.free hzr 0
            have y1 := Rw.free hzr 1
            have y2 := Rw.free hzr 2
            have y3 := Rw.free hzr 3
            have y4 := Rw.free hzr 4
            clear hzr
            go_wp2_with fail
            obtain ⟨E1, E2⟩ := exp_end HW0.out HK12.out 4 sc ho po pa
            refine bodyPost_ret (v := expV ⟨4, sc.data.toList, ho.data.toList, po.data.toList, pa.data.toList⟩) ?_ rfl ⟨by rw [HRes.out] <;> rfl, E2⟩
            exact results_row1 rfl _ _ w.heap.size 0 24 [.int .i64 4, .string sc, .string ho, .string po, .string pa] _ rfl E1 Tryz.underlying24 rfl Tryz.sizeExp
      · have hok' : okH (t.data.toList.take (hosK t.data.toList)) = false := by simpa using hok
        rw [hok'] at HHO
        have HRes : Hid (R = expZ) := Lib.hid (by rw [HRT.out, tail_code, if_neg hok])
        clear hok hok'
        go_wp2_with fail
        refine HHO.out.mono ?_
        rintro e w9 ⟨rfl, hv9⟩
        have HK9 := Lib.hid (new_kept HK8.out (.inr HG2.out) hv9.2)
        clear hv9
        have hzr := rw_kept HZ0.out HK9.out (fun x => x)
        have z0 := Rw.cell hzr (j := 0) rfl
        have z1 := Rw.cell hzr (j := 1) rfl
        have z2 := Rw.cell hzr (j := 2) rfl
        have z3 := Rw.cell hzr (j := 3) rfl
        have z4 := Rw.cell hzr (j := 4) rfl
        have y0 := Rw.free hzr 0
        have y1 := Rw.free hzr 1
        have y2 := Rw.free hzr 2
        have y3 := Rw.free hzr 3
        have y4 := Rw.free hzr 4
        clear hzr
        go_wp2_with fail
        obtain ⟨E1, E2⟩ := exp_end HW0.out HK9.out 0 ⟨#[]⟩ ⟨#[]⟩ ⟨#[]⟩ ⟨#[]⟩
        refine bodyPost_ret (v := expV ⟨0, [], [], [], []⟩) ?_ rfl ⟨by rw [HRes.out] <;> rfl, E2⟩
        exact results_row1 rfl _ _ w.heap.size 0 24 [.int .i64 0, .string ⟨#[]⟩, .string ⟨#[]⟩, .string ⟨#[]⟩, .string ⟨#[]⟩] _ rfl E1 Tryz.underlying24 rfl Tryz.sizeExp
    have HRB : Hid (R = tailS [] s.data.toList) := Lib.hid (hR.trans (src_bare h42 hself hquo h3 h4))
    have HF2 : Hid ((letH s.data.toList && (⟨#[58, 47, 47]⟩ : ByteArray).data.toList.isPrefixOf (s.data.toList.drop (schT s.data.toList))) = false) := Lib.hid (by
      show (letH s.data.toList && ([58, 47, 47] : List UInt8).isPrefixOf (s.data.toList.drop (schT s.data.toList))) = false
      rw [sch_three, decide_eq_false h4])
    by_cases h0 : 0 < schN s.data.toList
    · have hst := schN_t h0
      have HF1 : Hid ((letH s.data.toList && (⟨#[58]⟩ : ByteArray).data.toList.isPrefixOf (s.data.toList.drop (schT s.data.toList))) = true) := Lib.hid (by
        show (letH s.data.toList && ([58] : List UInt8).isPrefixOf (s.data.toList.drop (schT s.data.toList))) = true
        rw [sch_one, decide_eq_true h0])
      obtain ⟨d, hd⟩ : ∃ d : ByteArray, d = ⟨(s.data.toList.drop (schT s.data.toList + 1)).toArray⟩ := ⟨_, rfl⟩
      have HD1 : Hid (s.data.toList.drop (schT s.data.toList + (⟨#[58]⟩ : ByteArray).size) = d.data.toList) := Lib.hid (by rw [hd]; rfl)
      have HD2 : Hid (decide (d.data.toList = []) = false) := Lib.hid (decide_eq_false (by
        rw [hd]
        intro e
        have h6 := congrArg List.length e
        rw [List.length_drop, ← hst] at h6
        simp at h6
        have h7 : schN s.data.toList + 1 ≤ s.data.toList.length := by
          rw [schN_eq] at h0 ⊢
          split at h0
          · rename_i hc
            rw [if_pos hc]
            have h8 := hc.2
            rw [List.head?_drop] at h8
            exact (List.getElem?_eq_some_iff.1 h8).1
          · omega
        exact h3 ⟨h0, by rw [size_data] at h7 ⊢; omega⟩))
      clear hR h42 hself hquo h3 h4 hst hd hs h0
      go_enter Tryz.func11, Tryz.ntmps11
      go_wp2_with fail
      rw [← hw0]
      clear hw0
      refine (HSM.out _).mono ?_
      rintro e w1 ⟨rfl, hb1⟩
      have HK1 := Lib.hid (below_keep HK0.out hb1)
      clear hb1
      go_wp2_with fail
      refine (HQ.out _).mono ?_
      rintro e w2 ⟨rfl, rfl⟩
      go_wp2_with fail
      refine (HN.out _).mono ?_
      rintro e w3 ⟨rfl, hr3, hb3⟩
      have HK3 := Lib.hid (below_keep HK1.out hb3)
      obtain ⟨g1, hg1⟩ : ∃ g1, g1 = w2.heap.size := ⟨_, rfl⟩
      rw [← hg1] at hr3 ⊢
      have HG1 : Hid (w0.heap.size ≤ g1) := Lib.hid (by rw [hg1]; exact HK1.out.size)
      clear hb3 hg1
      have HX := Lib.hid (sscheme_yes s ⟨#[58]⟩ HS.out hr3 HF1.out)
      rw [HD1.out] at HX
      clear hr3
      go_wp2_with fail
      refine HX.out.mono ?_
      rintro e w4 ⟨rfl, hv4⟩
      have HK4 := Lib.hid (new_kept HK3.out (.inr HG1.out) hv4.2)
      have hrow := hv4.1
      rw [strL_data] at hrow
      have HE := Lib.hid (send_any d hrow)
      rw [HD2.out] at HE
      have HV4 := Lib.hid hv4.1
      clear hv4 hrow
      go_wp2_with fail
      refine HE.out.mono ?_
      rintro e w5 ⟨rfl, rfl⟩
      go_wp2_with fail
      refine (HN.out _).mono ?_
      rintro e w7 ⟨rfl, hr7, hb7⟩
      have HK7 := Lib.hid (below_keep HK4.out hb7)
      obtain ⟨g2, hg2⟩ : ∃ g2, g2 = w5.heap.size := ⟨_, rfl⟩
      rw [← hg2] at hr7 ⊢
      have HG2 : Hid (w0.heap.size ≤ g2) := Lib.hid (by rw [hg2]; exact HK4.out.size)
      clear hb7 hg2
      have HX2 := Lib.hid (sscheme_no s ⟨#[58, 47, 47]⟩ HS.out hr7 HF2.out)
      clear hr7
      go_wp2_with fail
      refine HX2.out.mono ?_
      rintro e w8 ⟨rfl, hv8⟩
      have HK8 := Lib.hid (new_kept HK7.out (.inr HG2.out) hv8.2)
      have hrow := hv8.1
      rw [strL_data] at hrow
      obtain ⟨t, ht⟩ : ∃ t : ByteArray, t = s := ⟨_, rfl⟩
      have HRT : Hid (R = tailS [] t.data.toList) := Lib.hid (by rw [HRB.out, ht])
      have HTS : Hid (t.size ≤ 1048576) := Lib.hid (by rw [ht]; exact HS.out)
      rw [← ht] at hrow
      have HHO := Lib.hid (shost_any t HTS.out hrow)
      clear hv8 hrow ht
      by_cases hok : okH (t.data.toList.take (hosK t.data.toList)) = true
      · rw [hok] at HHO
        obtain ⟨r, hr⟩ : ∃ r : ByteArray, r = ⟨(t.data.toList.drop (hosK t.data.toList)).toArray⟩ := ⟨_, rfl⟩
        have hrl : r.data.toList = t.data.toList.drop (hosK t.data.toList) := by rw [hr]
        have hrs : r.size ≤ 1048576 := by rw [← size_data, hrl, List.length_drop, size_data]; have := HTS.out; omega
        obtain ⟨ho, hho⟩ : ∃ ho : ByteArray, ho = ⟨(lowL (t.data.toList.take (hosK t.data.toList))).toArray⟩ := ⟨_, rfl⟩
        have HHS : Hid (strL (lowL (t.data.toList.take (hosK t.data.toList))) = .string ho) := Lib.hid (by rw [hho]; rfl)
        have HR1 : Hid (R = behS [] (t.data.toList.take (hosK t.data.toList)) r.data.toList) := Lib.hid (by rw [HRT.out, tail_code, if_pos hok, hrl])
        have HHL : Hid (lowL (t.data.toList.take (hosK t.data.toList)) = ho.data.toList) := Lib.hid (by rw [hho])
        have HRS := Lib.hid hrs
        rw [← hrl] at HHO
        rw [HHS.out] at HHO
        clear hr hrl hok hho hrs
        go_wp2_with fail
        refine HHO.out.mono ?_
        rintro e w9 ⟨rfl, hv9⟩
        have HK9 := Lib.hid (new_kept HK8.out (.inr HG2.out) hv9.2)
        have hrow := hv9.1
        rw [strL_data] at hrow
        have HPO := Lib.hid (sport_any r HRS.out hrow)
        clear hv9 hrow
        cases hm : prtN r.data.toList with
        | none =>
          have HRes : Hid (R = expZ) := Lib.hid (by rw [HR1.out, beh_none hm])
          have HM := Lib.hid hm
          clear hm
          go_wp2_with fail
          refine HPO.out.mono ?_
          rintro e w10 ⟨he, r2, p2, hv10, _⟩
          rw [HM.out] at he
          subst he
          have HK10 := Lib.hid (new_kept HK9.out (.inr HG2.out) hv10.2)
          clear hv10
          rw [show (none : Option Nat).isSome = false from rfl]
          have hzr := rw_kept HZ0.out HK10.out (fun x => x)
          have z0 := Rw.cell hzr (j := 0) rfl
          have z1 := Rw.cell hzr (j := 1) rfl
          have z2 := Rw.cell hzr (j := 2) rfl
          have z3 := Rw.cell hzr (j := 3) rfl
          have z4 := Rw.cell hzr (j := 4) rfl
          have y0 := Rw.free hzr 0
          have y1 := Rw.free hzr 1
          have y2 := Rw.free hzr 2
          have y3 := Rw.free hzr 3
          have y4 := Rw.free hzr 4
          clear hzr
          go_wp2_with fail
          obtain ⟨E1, E2⟩ := exp_end HW0.out HK10.out 0 ⟨#[]⟩ ⟨#[]⟩ ⟨#[]⟩ ⟨#[]⟩
          refine bodyPost_ret (v := expV ⟨0, [], [], [], []⟩) ?_ rfl ⟨by rw [HRes.out] <;> rfl, E2⟩
          exact results_row1 rfl _ _ w.heap.size 0 24 [.int .i64 0, .string ⟨#[]⟩, .string ⟨#[]⟩, .string ⟨#[]⟩, .string ⟨#[]⟩] _ rfl E1 Tryz.underlying24 rfl Tryz.sizeExp
        | some m =>
          have HM := Lib.hid hm
          obtain ⟨pa, hpa⟩ : ∃ pa : ByteArray, pa = ⟨(r.data.toList.drop m).toArray⟩ := ⟨_, rfl⟩
          have HPL : Hid (r.data.toList.drop m = pa.data.toList) := Lib.hid (by rw [hpa])
          have HPS : Hid (pa.size ≤ 1048576) := Lib.hid (by rw [← size_data, ← HPL.out, List.length_drop, size_data]; have := HRS.out; omega)
          obtain ⟨po, hpo⟩ : ∃ po : ByteArray, po = ⟨((r.data.toList.take m).drop 1).toArray⟩ := ⟨_, rfl⟩
          have HOL : Hid ((r.data.toList.take m).drop 1 = po.data.toList) := Lib.hid (by rw [hpo])
          clear hm hpa hpo
          go_wp2_with fail
          refine HPO.out.mono ?_
          rintro e w10 ⟨he, r2, p2, hv10, hrp⟩
          rw [HM.out] at he
          subst he
          obtain ⟨e1, e2⟩ := hrp m HM.out
          subst e1 e2
          have HK10 := Lib.hid (new_kept HK9.out (.inr HG2.out) hv10.2)
          have hrow := hv10.1
          rw [HPL.out, HOL.out, strL_data, strL_data] at hrow
          have HPA := Lib.hid (spath_any pa HPS.out hrow)
          clear hv10 hrow hrp
          rw [show (some m : Option Nat).isSome = true from rfl]
          cases hp : spathB pa.data.toList
          · have HRes : Hid (R = expZ) := Lib.hid (by rw [HR1.out, beh_bad HM.out (by rw [HPL.out]; exact hp)])
            have HP := Lib.hid hp
            clear hp
            go_wp2_with fail
            refine HPA.out.mono ?_
            rintro e w11 ⟨he, r3, p3, hv11, _⟩
            rw [HP.out] at he
            subst he
            have HK11 := Lib.hid (new_kept HK10.out (.inr HG2.out) hv11.2)
            clear hv11
            have hzr := rw_kept HZ0.out HK11.out (fun x => x)
            have z0 := Rw.cell hzr (j := 0) rfl
            have z1 := Rw.cell hzr (j := 1) rfl
            have z2 := Rw.cell hzr (j := 2) rfl
            have z3 := Rw.cell hzr (j := 3) rfl
            have z4 := Rw.cell hzr (j := 4) rfl
            have y0 := Rw.free hzr 0
            have y1 := Rw.free hzr 1
            have y2 := Rw.free hzr 2
            have y3 := Rw.free hzr 3
            have y4 := Rw.free hzr 4
            clear hzr
            go_wp2_with fail
            obtain ⟨E1, E2⟩ := exp_end HW0.out HK11.out 0 ⟨#[]⟩ ⟨#[]⟩ ⟨#[]⟩ ⟨#[]⟩
            refine bodyPost_ret (v := expV ⟨0, [], [], [], []⟩) ?_ rfl ⟨by rw [HRes.out] <;> rfl, E2⟩
            exact results_row1 rfl _ _ w.heap.size 0 24 [.int .i64 0, .string ⟨#[]⟩, .string ⟨#[]⟩, .string ⟨#[]⟩, .string ⟨#[]⟩] _ rfl E1 Tryz.underlying24 rfl Tryz.sizeExp
          · have HRes : Hid (R = ⟨4, [], ho.data.toList, po.data.toList, pa.data.toList⟩) := Lib.hid (by rw [HR1.out, beh_yes HM.out (by rw [HPL.out]; exact hp), HHL.out, HOL.out, HPL.out])
            have HP := Lib.hid hp
            clear hp
            go_wp2_with fail
            refine HPA.out.mono ?_
            rintro e w11 ⟨he, r3, p3, hv11, hp3⟩
            rw [HP.out] at he
            subst he
            have e3 := hp3 HP.out
            subst e3
            have HK11 := Lib.hid (new_kept HK10.out (.inr HG2.out) hv11.2)
            have hrow := hv11.1
            rw [strL_data pa] at hrow
            have HXP := Lib.hid (sexpr_any (kind := 4) hrow)
            clear hv11 hrow hp3
            go_wp2_with fail
            refine HXP.out.mono ?_
            rintro e w12 ⟨rfl, hb12⟩
            have HK12 := Lib.hid (below_keep HK11.out hb12)
            clear hb12
            have hzr := rw_kept HZ0.out HK12.out (fun x => x)
            have z0 := Rw.cell hzr (j := 0) rfl
            have z1 := Rw.cell hzr (j := 1) rfl
            have z2 := Rw.cell hzr (j := 2) rfl
            have z3 := Rw.cell hzr (j := 3) rfl
            have z4 := Rw.cell hzr (j := 4) rfl
            have y0 := Rw.free hzr 0
            have y1 := Rw.free hzr 1
            have y2 := Rw.free hzr 2
            have y3 := Rw.free hzr 3
            have y4 := Rw.free hzr 4
            clear hzr
            go_wp2_with fail
            obtain ⟨E1, E2⟩ := exp_end HW0.out HK12.out 4 ⟨#[]⟩ ho po pa
            refine bodyPost_ret (v := expV ⟨4, [], ho.data.toList, po.data.toList, pa.data.toList⟩) ?_ rfl ⟨by rw [HRes.out] <;> rfl, E2⟩
            exact results_row1 rfl _ _ w.heap.size 0 24 [.int .i64 4, .string ⟨#[]⟩, .string ho, .string po, .string pa] _ rfl E1 Tryz.underlying24 rfl Tryz.sizeExp
      · have hok' : okH (t.data.toList.take (hosK t.data.toList)) = false := by simpa using hok
        rw [hok'] at HHO
        have HRes : Hid (R = expZ) := Lib.hid (by rw [HRT.out, tail_code, if_neg hok])
        clear hok hok'
        go_wp2_with fail
        refine HHO.out.mono ?_
        rintro e w9 ⟨rfl, hv9⟩
        have HK9 := Lib.hid (new_kept HK8.out (.inr HG2.out) hv9.2)
        clear hv9
        have hzr := rw_kept HZ0.out HK9.out (fun x => x)
        have z0 := Rw.cell hzr (j := 0) rfl
        have z1 := Rw.cell hzr (j := 1) rfl
        have z2 := Rw.cell hzr (j := 2) rfl
        have z3 := Rw.cell hzr (j := 3) rfl
        have z4 := Rw.cell hzr (j := 4) rfl
        have y0 := Rw.free hzr 0
        have y1 := Rw.free hzr 1
        have y2 := Rw.free hzr 2
        have y3 := Rw.free hzr 3
        have y4 := Rw.free hzr 4
        clear hzr
        go_wp2_with fail
        obtain ⟨E1, E2⟩ := exp_end HW0.out HK9.out 0 ⟨#[]⟩ ⟨#[]⟩ ⟨#[]⟩ ⟨#[]⟩
        refine bodyPost_ret (v := expV ⟨0, [], [], [], []⟩) ?_ rfl ⟨by rw [HRes.out] <;> rfl, E2⟩
        exact results_row1 rfl _ _ w.heap.size 0 24 [.int .i64 0, .string ⟨#[]⟩, .string ⟨#[]⟩, .string ⟨#[]⟩, .string ⟨#[]⟩] _ rfl E1 Tryz.underlying24 rfl Tryz.sizeExp
    · have HF1 : Hid ((letH s.data.toList && (⟨#[58]⟩ : ByteArray).data.toList.isPrefixOf (s.data.toList.drop (schT s.data.toList))) = false) := Lib.hid (by
        show (letH s.data.toList && ([58] : List UInt8).isPrefixOf (s.data.toList.drop (schT s.data.toList))) = false
        rw [sch_one, decide_eq_false h0])
      clear hR h42 hself hquo h3 h4 hs h0
      go_enter Tryz.func11, Tryz.ntmps11
      go_wp2_with fail
      rw [← hw0]
      clear hw0
      refine (HSM.out _).mono ?_
      rintro e w1 ⟨rfl, hb1⟩
      have HK1 := Lib.hid (below_keep HK0.out hb1)
      clear hb1
      go_wp2_with fail
      refine (HQ.out _).mono ?_
      rintro e w2 ⟨rfl, rfl⟩
      go_wp2_with fail
      refine (HN.out _).mono ?_
      rintro e w3 ⟨rfl, hr3, hb3⟩
      have HK3 := Lib.hid (below_keep HK1.out hb3)
      obtain ⟨g1, hg1⟩ : ∃ g1, g1 = w2.heap.size := ⟨_, rfl⟩
      rw [← hg1] at hr3 ⊢
      have HG1 : Hid (w0.heap.size ≤ g1) := Lib.hid (by rw [hg1]; exact HK1.out.size)
      clear hb3 hg1
      have HX := Lib.hid (sscheme_no s ⟨#[58]⟩ HS.out hr3 HF1.out)
      clear hr3
      go_wp2_with fail
      refine HX.out.mono ?_
      rintro e w4 ⟨rfl, hv4⟩
      have HK4 := Lib.hid (new_kept HK3.out (.inr HG1.out) hv4.2)
      clear hv4
      go_wp2_with fail
      refine (HN.out _).mono ?_
      rintro e w7 ⟨rfl, hr7, hb7⟩
      have HK7 := Lib.hid (below_keep HK4.out hb7)
      obtain ⟨g2, hg2⟩ : ∃ g2, g2 = w4.heap.size := ⟨_, rfl⟩
      rw [← hg2] at hr7 ⊢
      have HG2 : Hid (w0.heap.size ≤ g2) := Lib.hid (by rw [hg2]; exact HK4.out.size)
      clear hb7 hg2
      have HX2 := Lib.hid (sscheme_no s ⟨#[58, 47, 47]⟩ HS.out hr7 HF2.out)
      clear hr7
      go_wp2_with fail
      refine HX2.out.mono ?_
      rintro e w8 ⟨rfl, hv8⟩
      have HK8 := Lib.hid (new_kept HK7.out (.inr HG2.out) hv8.2)
      have hrow := hv8.1
      rw [strL_data] at hrow
      obtain ⟨t, ht⟩ : ∃ t : ByteArray, t = s := ⟨_, rfl⟩
      have HRT : Hid (R = tailS [] t.data.toList) := Lib.hid (by rw [HRB.out, ht])
      have HTS : Hid (t.size ≤ 1048576) := Lib.hid (by rw [ht]; exact HS.out)
      rw [← ht] at hrow
      have HHO := Lib.hid (shost_any t HTS.out hrow)
      clear hv8 hrow ht
      by_cases hok : okH (t.data.toList.take (hosK t.data.toList)) = true
      · rw [hok] at HHO
        obtain ⟨r, hr⟩ : ∃ r : ByteArray, r = ⟨(t.data.toList.drop (hosK t.data.toList)).toArray⟩ := ⟨_, rfl⟩
        have hrl : r.data.toList = t.data.toList.drop (hosK t.data.toList) := by rw [hr]
        have hrs : r.size ≤ 1048576 := by rw [← size_data, hrl, List.length_drop, size_data]; have := HTS.out; omega
        obtain ⟨ho, hho⟩ : ∃ ho : ByteArray, ho = ⟨(lowL (t.data.toList.take (hosK t.data.toList))).toArray⟩ := ⟨_, rfl⟩
        have HHS : Hid (strL (lowL (t.data.toList.take (hosK t.data.toList))) = .string ho) := Lib.hid (by rw [hho]; rfl)
        have HR1 : Hid (R = behS [] (t.data.toList.take (hosK t.data.toList)) r.data.toList) := Lib.hid (by rw [HRT.out, tail_code, if_pos hok, hrl])
        have HHL : Hid (lowL (t.data.toList.take (hosK t.data.toList)) = ho.data.toList) := Lib.hid (by rw [hho])
        have HRS := Lib.hid hrs
        rw [← hrl] at HHO
        rw [HHS.out] at HHO
        clear hr hrl hok hho hrs
        go_wp2_with fail
        refine HHO.out.mono ?_
        rintro e w9 ⟨rfl, hv9⟩
        have HK9 := Lib.hid (new_kept HK8.out (.inr HG2.out) hv9.2)
        have hrow := hv9.1
        rw [strL_data] at hrow
        have HPO := Lib.hid (sport_any r HRS.out hrow)
        clear hv9 hrow
        cases hm : prtN r.data.toList with
        | none =>
          have HRes : Hid (R = expZ) := Lib.hid (by rw [HR1.out, beh_none hm])
          have HM := Lib.hid hm
          clear hm
          go_wp2_with fail
          refine HPO.out.mono ?_
          rintro e w10 ⟨he, r2, p2, hv10, _⟩
          rw [HM.out] at he
          subst he
          have HK10 := Lib.hid (new_kept HK9.out (.inr HG2.out) hv10.2)
          clear hv10
          rw [show (none : Option Nat).isSome = false from rfl]
          have hzr := rw_kept HZ0.out HK10.out (fun x => x)
          have z0 := Rw.cell hzr (j := 0) rfl
          have z1 := Rw.cell hzr (j := 1) rfl
          have z2 := Rw.cell hzr (j := 2) rfl
          have z3 := Rw.cell hzr (j := 3) rfl
          have z4 := Rw.cell hzr (j := 4) rfl
          have y0 := Rw.free hzr 0
          have y1 := Rw.free hzr 1
          have y2 := Rw.free hzr 2
          have y3 := Rw.free hzr 3
          have y4 := Rw.free hzr 4
          clear hzr
          go_wp2_with fail
          obtain ⟨E1, E2⟩ := exp_end HW0.out HK10.out 0 ⟨#[]⟩ ⟨#[]⟩ ⟨#[]⟩ ⟨#[]⟩
          refine bodyPost_ret (v := expV ⟨0, [], [], [], []⟩) ?_ rfl ⟨by rw [HRes.out] <;> rfl, E2⟩
          exact results_row1 rfl _ _ w.heap.size 0 24 [.int .i64 0, .string ⟨#[]⟩, .string ⟨#[]⟩, .string ⟨#[]⟩, .string ⟨#[]⟩] _ rfl E1 Tryz.underlying24 rfl Tryz.sizeExp
        | some m =>
          have HM := Lib.hid hm
          obtain ⟨pa, hpa⟩ : ∃ pa : ByteArray, pa = ⟨(r.data.toList.drop m).toArray⟩ := ⟨_, rfl⟩
          have HPL : Hid (r.data.toList.drop m = pa.data.toList) := Lib.hid (by rw [hpa])
          have HPS : Hid (pa.size ≤ 1048576) := Lib.hid (by rw [← size_data, ← HPL.out, List.length_drop, size_data]; have := HRS.out; omega)
          obtain ⟨po, hpo⟩ : ∃ po : ByteArray, po = ⟨((r.data.toList.take m).drop 1).toArray⟩ := ⟨_, rfl⟩
          have HOL : Hid ((r.data.toList.take m).drop 1 = po.data.toList) := Lib.hid (by rw [hpo])
          clear hm hpa hpo
          go_wp2_with fail
          refine HPO.out.mono ?_
          rintro e w10 ⟨he, r2, p2, hv10, hrp⟩
          rw [HM.out] at he
          subst he
          obtain ⟨e1, e2⟩ := hrp m HM.out
          subst e1 e2
          have HK10 := Lib.hid (new_kept HK9.out (.inr HG2.out) hv10.2)
          have hrow := hv10.1
          rw [HPL.out, HOL.out, strL_data, strL_data] at hrow
          have HPA := Lib.hid (spath_any pa HPS.out hrow)
          clear hv10 hrow hrp
          rw [show (some m : Option Nat).isSome = true from rfl]
          cases hp : spathB pa.data.toList
          · have HRes : Hid (R = expZ) := Lib.hid (by rw [HR1.out, beh_bad HM.out (by rw [HPL.out]; exact hp)])
            have HP := Lib.hid hp
            clear hp
            go_wp2_with fail
            refine HPA.out.mono ?_
            rintro e w11 ⟨he, r3, p3, hv11, _⟩
            rw [HP.out] at he
            subst he
            have HK11 := Lib.hid (new_kept HK10.out (.inr HG2.out) hv11.2)
            clear hv11
            have hzr := rw_kept HZ0.out HK11.out (fun x => x)
            have z0 := Rw.cell hzr (j := 0) rfl
            have z1 := Rw.cell hzr (j := 1) rfl
            have z2 := Rw.cell hzr (j := 2) rfl
            have z3 := Rw.cell hzr (j := 3) rfl
            have z4 := Rw.cell hzr (j := 4) rfl
            have y0 := Rw.free hzr 0
            have y1 := Rw.free hzr 1
            have y2 := Rw.free hzr 2
            have y3 := Rw.free hzr 3
            have y4 := Rw.free hzr 4
            clear hzr
            go_wp2_with fail
            obtain ⟨E1, E2⟩ := exp_end HW0.out HK11.out 0 ⟨#[]⟩ ⟨#[]⟩ ⟨#[]⟩ ⟨#[]⟩
            refine bodyPost_ret (v := expV ⟨0, [], [], [], []⟩) ?_ rfl ⟨by rw [HRes.out] <;> rfl, E2⟩
            exact results_row1 rfl _ _ w.heap.size 0 24 [.int .i64 0, .string ⟨#[]⟩, .string ⟨#[]⟩, .string ⟨#[]⟩, .string ⟨#[]⟩] _ rfl E1 Tryz.underlying24 rfl Tryz.sizeExp
          · have HRes : Hid (R = ⟨4, [], ho.data.toList, po.data.toList, pa.data.toList⟩) := Lib.hid (by rw [HR1.out, beh_yes HM.out (by rw [HPL.out]; exact hp), HHL.out, HOL.out, HPL.out])
            have HP := Lib.hid hp
            clear hp
            go_wp2_with fail
            refine HPA.out.mono ?_
            rintro e w11 ⟨he, r3, p3, hv11, hp3⟩
            rw [HP.out] at he
            subst he
            have e3 := hp3 HP.out
            subst e3
            have HK11 := Lib.hid (new_kept HK10.out (.inr HG2.out) hv11.2)
            have hrow := hv11.1
            rw [strL_data pa] at hrow
            have HXP := Lib.hid (sexpr_any (kind := 4) hrow)
            clear hv11 hrow hp3
            go_wp2_with fail
            refine HXP.out.mono ?_
            rintro e w12 ⟨rfl, hb12⟩
            have HK12 := Lib.hid (below_keep HK11.out hb12)
            clear hb12
            have hzr := rw_kept HZ0.out HK12.out (fun x => x)
            have z0 := Rw.cell hzr (j := 0) rfl
            have z1 := Rw.cell hzr (j := 1) rfl
            have z2 := Rw.cell hzr (j := 2) rfl
            have z3 := Rw.cell hzr (j := 3) rfl
            have z4 := Rw.cell hzr (j := 4) rfl
            have y0 := Rw.free hzr 0
            have y1 := Rw.free hzr 1
            have y2 := Rw.free hzr 2
            have y3 := Rw.free hzr 3
            have y4 := Rw.free hzr 4
            clear hzr
            go_wp2_with fail
            obtain ⟨E1, E2⟩ := exp_end HW0.out HK12.out 4 ⟨#[]⟩ ho po pa
            refine bodyPost_ret (v := expV ⟨4, [], ho.data.toList, po.data.toList, pa.data.toList⟩) ?_ rfl ⟨by rw [HRes.out] <;> rfl, E2⟩
            exact results_row1 rfl _ _ w.heap.size 0 24 [.int .i64 4, .string ⟨#[]⟩, .string ho, .string po, .string pa] _ rfl E1 Tryz.underlying24 rfl Tryz.sizeExp
      · have hok' : okH (t.data.toList.take (hosK t.data.toList)) = false := by simpa using hok
        rw [hok'] at HHO
        have HRes : Hid (R = expZ) := Lib.hid (by rw [HRT.out, tail_code, if_neg hok])
        clear hok hok'
        go_wp2_with fail
        refine HHO.out.mono ?_
        rintro e w9 ⟨rfl, hv9⟩
        have HK9 := Lib.hid (new_kept HK8.out (.inr HG2.out) hv9.2)
        clear hv9
        have hzr := rw_kept HZ0.out HK9.out (fun x => x)
        have z0 := Rw.cell hzr (j := 0) rfl
        have z1 := Rw.cell hzr (j := 1) rfl
        have z2 := Rw.cell hzr (j := 2) rfl
        have z3 := Rw.cell hzr (j := 3) rfl
        have z4 := Rw.cell hzr (j := 4) rfl
        have y0 := Rw.free hzr 0
        have y1 := Rw.free hzr 1
        have y2 := Rw.free hzr 2
        have y3 := Rw.free hzr 3
        have y4 := Rw.free hzr 4
        clear hzr
        go_wp2_with fail
        obtain ⟨E1, E2⟩ := exp_end HW0.out HK9.out 0 ⟨#[]⟩ ⟨#[]⟩ ⟨#[]⟩ ⟨#[]⟩
        refine bodyPost_ret (v := expV ⟨0, [], [], [], []⟩) ?_ rfl ⟨by rw [HRes.out] <;> rfl, E2⟩
        exact results_row1 rfl _ _ w.heap.size 0 24 [.int .i64 0, .string ⟨#[]⟩, .string ⟨#[]⟩, .string ⟨#[]⟩, .string ⟨#[]⟩] _ rfl E1 Tryz.underlying24 rfl Tryz.sizeExp

theorem lab_ways (c : UInt8) : (isLet c.toNat = true ∧ labB c = true) ∨ (isLet c.toNat = false ∧ isDig c.toNat = true ∧ labB c = true) ∨ (isLet c.toNat = false ∧ isDig c.toNat = false ∧ ((c.toNat : Int) == 45) = true ∧ labB c = true) ∨ (isLet c.toNat = false ∧ isDig c.toNat = false ∧ ((c.toNat : Int) == 45) = false ∧ ((c.toNat : Int) == 95) = true ∧ labB c = true) ∨ (isLet c.toNat = false ∧ isDig c.toNat = false ∧ ((c.toNat : Int) == 45) = false ∧ ((c.toNat : Int) == 95) = false ∧ labB c = false) :=
  byte_all (p := fun c => (isLet c.toNat = true ∧ labB c = true) ∨ (isLet c.toNat = false ∧ isDig c.toNat = true ∧ labB c = true) ∨ (isLet c.toNat = false ∧ isDig c.toNat = false ∧ ((c.toNat : Int) == 45) = true ∧ labB c = true) ∨ (isLet c.toNat = false ∧ isDig c.toNat = false ∧ ((c.toNat : Int) == 45) = false ∧ ((c.toNat : Int) == 95) = true ∧ labB c = true) ∨ (isLet c.toNat = false ∧ isDig c.toNat = false ∧ ((c.toNat : Int) == 45) = false ∧ ((c.toNat : Int) == 95) = false ∧ labB c = false)) (by decide +kernel) c

set_option maxHeartbeats 2000000 in
theorem slabel_any (s : ByteArray) (hs : s.size ≤ 1073741824) (w : World) :
    Calls Tryz.prog 103 #[.string s] w fun e w' => e = .returned (.int .i64 (labN s.data.toList)) ∧ w' = w := by
  obtain ⟨R, hR⟩ : ∃ R, R = labN s.data.toList := ⟨_, rfl⟩
  have HR := Lib.hid hR
  rw [← hR]
  clear hR
  go_enter Tryz.func103, Tryz.ntmps103
  go_wp2_with fail
  go_loop [3] (fun i => ∃ k : Nat, k ≤ s.size ∧ i = .int .i64 k ∧ Hid ((s.data.toList.take k).all labB = true)) (fun i => s.size - (intOf i).toNat)
  case atStart => exact ⟨0, Nat.zero_le _, rfl, Lib.hid rfl⟩
  case round =>
    obtain ⟨k, hk, rfl, HN⟩ := hrel
    by_cases hlt : k < s.size
    · have HNX := Lib.hid (fun h => all_next (p := labB) hlt HN.out h)
      have HL := Lib.hid (ref_letter_byte s[k] w)
      have HD := Lib.hid (ref_digit_byte s[k] w)
      rcases lab_ways s[k] with ⟨a, f⟩ | ⟨a, b, f⟩ | ⟨a, b, c, f⟩ | ⟨a, b, c, d, f⟩ | ⟨a, b, c, d, f⟩
      · rw [a] at HL
        have HF := Lib.hid (HNX.out f)
        clear f a HNX
        go_wp2_with fail
        refine HL.out.mono ?_
        rintro e w1 ⟨rfl, rfl⟩
        go_wp2_with fail
        go_round
        case rel => exact ⟨k + 1, by omega, by go_num, HF⟩
        case measure => simp [intOf]; omega
      · rw [a] at HL
        rw [b] at HD
        have HF := Lib.hid (HNX.out f)
        clear f a b HNX
        go_wp2_with fail
        refine HL.out.mono ?_
        rintro e w1 ⟨rfl, rfl⟩
        go_wp2_with fail
        refine HD.out.mono ?_
        rintro e w2 ⟨rfl, rfl⟩
        go_wp2_with fail
        go_round
        case rel => exact ⟨k + 1, by omega, by go_num, HF⟩
        case measure => simp [intOf]; omega
      · rw [a] at HL
        rw [b] at HD
        have HF := Lib.hid (HNX.out f)
        clear f a b HNX
        go_wp2_with fail
        refine HL.out.mono ?_
        rintro e w1 ⟨rfl, rfl⟩
        go_wp2_with fail
        refine HD.out.mono ?_
        rintro e w2 ⟨rfl, rfl⟩
        go_wp2_with fail
        go_round
        case rel => exact ⟨k + 1, by omega, by go_num, HF⟩
        case measure => simp [intOf]; omega
      · rw [a] at HL
        rw [b] at HD
        have HF := Lib.hid (HNX.out f)
        clear f a b HNX
        go_wp2_with fail
        refine HL.out.mono ?_
        rintro e w1 ⟨rfl, rfl⟩
        go_wp2_with fail
        refine HD.out.mono ?_
        rintro e w2 ⟨rfl, rfl⟩
        go_wp2_with fail
        go_round
        case rel => exact ⟨k + 1, by omega, by go_num, HF⟩
        case measure => simp [intOf]; omega
      · rw [a] at HL
        rw [b] at HD
        have HF : Hid (R = k) := Lib.hid (by rw [HR.out]; exact lab_stop HN.out hk (fun _ => f))
        clear f a b HNX
        go_wp2_with fail
        refine HL.out.mono ?_
        rintro e w1 ⟨rfl, rfl⟩
        go_wp2_with fail
        refine HD.out.mono ?_
        rintro e w2 ⟨rfl, rfl⟩
        go_wp2_with fail
        go_ret
        exact ⟨ret_int (by rw [HF.out]), rfl⟩
    · have HF : Hid (R = k) := Lib.hid (by rw [HR.out]; exact lab_stop HN.out hk (fun h => absurd h hlt))
      go_wp2_with fail
      go_ret
      exact ⟨ret_int (by rw [HF.out]), rfl⟩

set_option maxHeartbeats 2000000 in
theorem srlabels_any (s : ByteArray) (hs : s.size ≤ 1073741824) (w : World) :
    Calls Tryz.prog 78 #[.string s] w fun e w' => e = .returned (.int .i64 (labsN s.data.toList)) ∧ w' = w := by
  obtain ⟨R, hR⟩ : ∃ R, R = labsN s.data.toList := ⟨_, rfl⟩
  have HR := Lib.hid hR
  rw [← hR]
  clear hR
  have HL := Lib.hid (slabel_any s hs w)
  obtain ⟨n0, hn0⟩ : ∃ n0, n0 = labN s.data.toList := ⟨_, rfl⟩
  have hle : n0 ≤ s.size := by rw [hn0, ← size_data]; exact lab_le _
  rw [← hn0] at HL
  by_cases h0 : n0 = 0
  · have HF : Hid (R = 0) := Lib.hid (by rw [HR.out]; exact labs_zero (by rw [← hn0]; exact h0))
    rw [h0] at HL
    clear hn0 hle h0
    go_enter Tryz.func78, Tryz.ntmps78
    go_wp2_with fail
    refine HL.out.mono ?_
    rintro e w1 ⟨rfl, rfl⟩
    go_wp2_with fail
    go_ret
    exact ⟨ret_int (by rw [HF.out]; rfl), rfl⟩
  · have HA : Hid (LabsAt s.data.toList n0) := Lib.hid (by rw [hn0]; exact labs_first (by rw [← hn0]; exact h0))
    have hne : ((n0 : Int) == 0) = false := by rw [beq_eq_false_iff_ne]; omega
    clear hn0
    go_enter Tryz.func78, Tryz.ntmps78
    go_wp2_with fail
    refine HL.out.mono ?_
    rintro e w1 ⟨rfl, rfl⟩
    clear HL
    go_wp2_with fail
    go_loop [3] (fun i => ∃ k : Nat, k ≤ s.size ∧ i = .int .i64 k ∧ Hid (LabsAt s.data.toList k)) (fun i => s.size - (intOf i).toNat)
    case atStart => exact ⟨n0, hle, rfl, HA⟩
    case round =>
      clear HA
      obtain ⟨k, hk, rfl, HA⟩ := hrel
      by_cases hlt : k < s.size
      · have hdk : (s.data.toList.drop k).head? = some s[k] := by rw [List.head?_drop, Lib.data_getElem? s k hlt]
        by_cases h46 : s[k].toNat = 46
        · have hq : ((s[k].toNat : Int) == 46) = true := by rw [beq_iff_eq]; omega
          have hk46 : s[k] = 46 := UInt8.toNat_inj.1 h46
          have hd46 : (s.data.toList.drop k).head? = some 46 := by rw [hdk, hk46]
          have hex : (s.extract (k + 1) s.size).data.toList = s.data.toList.drop (k + 1) := by
            rw [extract_list, List.take_of_length_le (by rw [size_data]; exact Nat.le_refl _)]
          have HL2 := Lib.hid (slabel_any (s.extract (k + 1) s.size) (by rw [← size_data, hex, List.length_drop, size_data]; omega) w1)
          rw [hex] at HL2
          obtain ⟨j, hj⟩ : ∃ j, j = labN (s.data.toList.drop (k + 1)) := ⟨_, rfl⟩
          have hjl : k + 1 + j ≤ s.size := by
            have := lab_le (s.data.toList.drop (k + 1))
            rw [List.length_drop, size_data] at this
            omega
          rw [← hj] at HL2
          have hk1 : (k : Int) + 1 ≤ (s.size : Int) := by omega
          by_cases hj0 : j = 0
          · have HF : Hid (R = 0) := Lib.hid (by rw [HR.out]; exact labs_bad HA.out hd46 (by rw [← hj]; exact hj0))
            rw [hj0] at HL2
            clear hdk h46 hk46 hd46 hex hj hjl hj0
            go_wp2_with fail
            refine HL2.out.mono ?_
            rintro e w2 ⟨rfl, rfl⟩
            go_wp2_with fail
            go_ret
            exact ⟨ret_int (by rw [HF.out]; rfl), rfl⟩
          · have HS := Lib.hid (labs_step HA.out hd46 hj.symm hj0)
            have hjn : ((j : Int) == 0) = false := by rw [beq_eq_false_iff_ne]; omega
            clear hdk h46 hk46 hd46 hex hj
            go_wp2_with fail
            refine HL2.out.mono ?_
            rintro e w2 ⟨rfl, rfl⟩
            go_wp2_with fail
            go_round
            case rel => exact ⟨k + 1 + j, by omega, by go_num, HS⟩
            case measure => simp [intOf]; omega
        · have hq : ((s[k].toNat : Int) == 46) = false := by rw [beq_eq_false_iff_ne]; omega
          have HF : Hid (R = k) := Lib.hid (by
            rw [HR.out]
            refine labs_end HA.out ?_
            rw [hdk]
            intro e
            injection e with e
            exact h46 (by rw [e]; rfl))
          clear hdk h46
          go_wp2_with fail
          go_ret
          exact ⟨ret_int (by rw [HF.out]), rfl⟩
      · have HF : Hid (R = k) := Lib.hid (by
          rw [HR.out]
          refine labs_end HA.out ?_
          rw [List.drop_of_length_le (by rw [size_data]; omega)]
          simp)
        go_wp2_with fail
        go_ret
        exact ⟨ret_int (by rw [HF.out]), rfl⟩

set_option maxHeartbeats 2000000 in
theorem shostn_any (s : ByteArray) (hs : s.size ≤ 1073741824) (w : World) :
    Calls Tryz.prog 43 #[.string s] w fun e w' => e = .returned (.int .i64 (hostN s.data.toList)) ∧ w' = w := by
  obtain ⟨R, hR⟩ : ∃ R, R = hostN s.data.toList := ⟨_, rfl⟩
  rw [← hR]
  have HLA := Lib.hid (srlabels_any s hs w)
  have hbare : s.data.toList.head? ≠ some 42 → R = labsN s.data.toList := fun h => by rw [hR]; unfold hostN; rw [if_neg h]
  by_cases h0 : s.size = 0
  · have y := emptyYes h0
    have HF := Lib.hid (hbare (by rw [show s.data.toList = [] from List.eq_nil_of_length_eq_zero (by rw [size_data]; exact h0)]; simp))
    clear hbare hR h0
    go_enter Tryz.func43, Tryz.ntmps43
    go_wp2_with fail
    refine HLA.out.mono ?_
    rintro e w1 ⟨rfl, rfl⟩
    go_wp2_with fail
    go_ret
    exact ⟨ret_int (by rw [HF.out]), rfl⟩
  · have y := emptyNo h0
    have hp : 0 < s.size := by omega
    have hh := head_of s hp
    have hpi : (0 : Int) < (s.size : Int) := by omega
    by_cases h42 : s[0].toNat = 42
    · have q : ((s[0].toNat : Int) == 42) = true := by rw [beq_iff_eq]; omega
      have hs42 : s.data.toList.head? = some 42 := by rw [hh, UInt8.toNat_inj.1 (show s[0].toNat = (42 : UInt8).toNat from h42)]
      have hst : R = starN s.data.toList := by rw [hR]; unfold hostN; rw [if_pos hs42]
      by_cases h1 : s.size = 1
      · have q1 : ((s.size : Int) == 1) = true := by rw [beq_iff_eq]; omega
        have HF : Hid (R = 1) := Lib.hid (by
          rw [hst]
          unfold starN
          rw [if_neg]
          rw [List.drop_of_length_le (by rw [size_data]; omega)]
          simp)
        clear hbare hR h0 hh h42 hs42 hst h1
        go_enter Tryz.func43, Tryz.ntmps43
        go_wp2_with fail
        go_ret
        exact ⟨ret_int (by rw [HF.out]; rfl), rfl⟩
      · have q1 : ((s.size : Int) == 1) = false := by rw [beq_eq_false_iff_ne]; omega
        have hp1 : 1 < s.size := by omega
        have hp1i : (1 : Int) < (s.size : Int) := by omega
        have hd1 : (s.data.toList.drop 1).head? = some s[1] := by rw [List.head?_drop, Lib.data_getElem? s 1 hp1]
        by_cases h46 : s[1].toNat = 46
        · have q2 : ((s[1].toNat : Int) != 46) = false := by rw [bne_eq_false_iff_eq]; omega
          have hex : (s.extract 2 s.size).data.toList = s.data.toList.drop 2 := by
            rw [extract_list, List.take_of_length_le (by rw [size_data]; exact Nat.le_refl _)]
          have HL2 := Lib.hid (srlabels_any (s.extract 2 s.size) (by rw [← size_data, hex, List.length_drop, size_data]; omega) w)
          rw [hex] at HL2
          obtain ⟨j, hj⟩ : ∃ j, j = labsN (s.data.toList.drop 2) := ⟨_, rfl⟩
          have hjl : j ≤ s.size := by
            have := labs_le (s.data.toList.drop 2)
            rw [List.length_drop, size_data] at this
            omega
          rw [← hj] at HL2
          have hst2 : R = if j = 0 then 0 else 2 + j := by
            rw [hst, hj]
            unfold starN
            rw [hd1, if_pos (by rw [UInt8.toNat_inj.1 (show s[1].toNat = (46 : UInt8).toNat from h46)])]
          have h2i : (2 : Int) ≤ (s.size : Int) := by omega
          by_cases hj0 : j = 0
          · have HF : Hid (R = 0) := Lib.hid (by rw [hst2, if_pos hj0])
            rw [hj0] at HL2
            clear hbare hR h0 hh h42 hs42 hst h1 hd1 h46 hex hj hst2 hj0 hjl
            go_enter Tryz.func43, Tryz.ntmps43
            go_wp2_with fail
            refine HL2.out.mono ?_
            rintro e w1 ⟨rfl, rfl⟩
            go_wp2_with fail
            go_ret
            exact ⟨ret_int (by rw [HF.out]; rfl), rfl⟩
          · have HF : Hid (R = 2 + j) := Lib.hid (by rw [hst2, if_neg hj0])
            have hjn : ((j : Int) == 0) = false := by rw [beq_eq_false_iff_ne]; omega
            clear hbare hR h0 hh h42 hs42 hst h1 hd1 h46 hex hj hst2 hj0
            go_enter Tryz.func43, Tryz.ntmps43
            go_wp2_with fail
            refine HL2.out.mono ?_
            rintro e w1 ⟨rfl, rfl⟩
            go_wp2_with fail
            go_ret
            exact ⟨ret_int (by rw [HF.out]; omega), rfl⟩
        · have q2 : ((s[1].toNat : Int) != 46) = true := by rw [bne_iff_ne]; omega
          have HF : Hid (R = 1) := Lib.hid (by
            rw [hst]
            unfold starN
            rw [hd1, if_neg]
            intro e
            injection e with e
            exact h46 (by rw [e]; rfl))
          clear hbare hR h0 hh h42 hs42 hst h1 hd1 h46
          go_enter Tryz.func43, Tryz.ntmps43
          go_wp2_with fail
          go_ret
          exact ⟨ret_int (by rw [HF.out]; rfl), rfl⟩
    · have q : ((s[0].toNat : Int) == 42) = false := by rw [beq_eq_false_iff_ne]; omega
      have HF := Lib.hid (hbare (by
        rw [hh]
        intro e
        injection e with e
        exact h42 (by rw [e]; rfl)))
      clear hbare hR h0 hh h42
      go_enter Tryz.func43, Tryz.ntmps43
      go_wp2_with fail
      refine HLA.out.mono ?_
      rintro e w1 ⟨rfl, rfl⟩
      go_wp2_with fail
      go_ret
      exact ⟨ret_int (by rw [HF.out]), rfl⟩

end Go.Proofs.YtnecjofgjbfheaaGreatDoor
