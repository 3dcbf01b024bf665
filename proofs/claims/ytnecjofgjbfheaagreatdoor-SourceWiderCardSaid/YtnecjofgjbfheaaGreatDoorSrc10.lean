/- source: the reference's Source. -/
import Derived.Test.YtnecjofgjbfheaaGreatDoorShelf
import Derived.BigQuiet
import Derived.BigRegion
import Derived.Deep.CutBlock
import Derived.Test.YtnecjofgjbfheaaGreatDoorProg
import Derived.Test.YtnecjofgjbfheaaGreatDoorKit
import Derived.Test.YtnecjofgjbfheaaGreatDoorPlain
import Derived.Test.YtnecjofgjbfheaaGreatDoorStr
import Derived.Test.YtnecjofgjbfheaaGreatDoorAsc1
import Derived.Test.YtnecjofgjbfheaaGreatDoorAsc4
import Derived.Test.YtnecjofgjbfheaaGreatDoorRow
import Derived.Test.YtnecjofgjbfheaaGreatDoorSha
import Derived.Test.YtnecjofgjbfheaaGreatDoorFp
import Derived.Test.YtnecjofgjbfheaaGreatDoorMd1
import Derived.Test.YtnecjofgjbfheaaGreatDoorHst0
import Derived.Test.YtnecjofgjbfheaaGreatDoorHst1
import Derived.Test.YtnecjofgjbfheaaGreatDoorHst4
import Derived.Test.YtnecjofgjbfheaaGreatDoorHst6
import Derived.Test.YtnecjofgjbfheaaGreatDoorUrl0
import Derived.Test.YtnecjofgjbfheaaGreatDoorUrl4
import Derived.Test.YtnecjofgjbfheaaGreatDoorUrl12
import Derived.Test.YtnecjofgjbfheaaGreatDoorUrr0
import Derived.Test.YtnecjofgjbfheaaGreatDoorUrr1
import Derived.Test.YtnecjofgjbfheaaGreatDoorOrg0
import Derived.Test.YtnecjofgjbfheaaGreatDoorOrg10
import Derived.Test.YtnecjofgjbfheaaGreatDoorSrc0
import Derived.Test.YtnecjofgjbfheaaGreatDoorSrc4
import Derived.Test.YtnecjofgjbfheaaGreatDoorSrc8
namespace Go.Proofs.YtnecjofgjbfheaaGreatDoor
open Go.RowKit Go.Proofs
set_option maxRecDepth 100000

theorem Tryz.infoExp9 : (Tryz.prog.info? 27).map (fun i => (i.zero, i.size)) = some (some (.agg #[.int .i64 0, .string ⟨#[]⟩, .string ⟨#[]⟩, .string ⟨#[]⟩, .string ⟨#[]⟩]), 5) := by kernel_rfl

theorem Tryz.sizeExp9 : (Tryz.prog.info? 27).map (·.size) = some 5 := by kernel_rfl

theorem exp9_end {w w0 W : World} (h0 : w0 = w.alloc (.cells #[.int .i64 0, .string ⟨#[]⟩, .string ⟨#[]⟩, .string ⟨#[]⟩, .string ⟨#[]⟩] 27)) (hk : Kept (fun _ => False) w0 W) (k : Int) (a b c d : ByteArray) :
    Rw (W.setCells w.heap.size 0 [.int .i64 k, .string a, .string b, .string c, .string d]) 0 w.heap.size 27 [.int .i64 k, .string a, .string b, .string c, .string d] ∧ Below w.heap.size w (W.setCells w.heap.size 0 [.int .i64 k, .string a, .string b, .string c, .string d]) := by
  have hz : Rw w0 0 w.heap.size 27 [.int .i64 0, .string ⟨#[]⟩, .string ⟨#[]⟩, .string ⟨#[]⟩, .string ⟨#[]⟩] := by rw [h0]; exact Rw.alloc w _ _ (Nat.zero_le _)
  have hb : Below w.heap.size w w0 := by rw [h0]; exact below_more (Below.refl _ _) _
  exact ⟨Rw.storedAll (rw_kept hz hk (fun x => x)) _ rfl, below_stores (below_then hb (below_kept hk)) (Nat.le_refl _) _⟩

theorem put_new {w0 W : World} {g : Nat} {T : TypeId} {xs : List Value} (hk : Kept (fun _ => False) w0 W) (hg : w0.heap.size ≤ g) (h : Rw W 0 g T xs) (j : Nat) (u : Value) : Rw (W.setCell ⟨g, j, none⟩ u) 0 g T (xs.set j u) ∧ Kept (fun _ => False) w0 (W.setCell ⟨g, j, none⟩ u) :=
  ⟨Rw.stored h j u, kept_put hk (.inr hg) j u⟩

theorem cut_tail {s : ByteArray} {k : Nat} (_hk : k ≤ s.size) : (s.extract k s.size).data.toList = s.data.toList.drop k := by
  rw [extract_list, List.take_of_length_le (by rw [size_data]; exact Nat.le_refl _)]

theorem cut_mid (s : ByteArray) (i j : Nat) : (s.extract i j).data.toList = (s.data.toList.take j).drop i := extract_list s i j

theorem quo_no1 {s : ByteArray} (h : s.size < 2) : quoB s.data.toList = false := by
  unfold quoB
  rw [size_data, decide_eq_false (by omega)]
  rfl

theorem quo_parts {s : ByteArray} (h : 2 ≤ s.size) : quoB s.data.toList = (decide ((s[0]'(by omega)).toNat = 39) && decide ((s[s.size - 1]'(by omega)).toNat = 39)) := by
  have hks : 0 < s.size := by omega
  have hkl : s.size - 1 < s.size := by omega
  have hh := head_of s hks
  have hg : s.data.toList.getLast? = some (s[s.size - 1]'hkl) := by
    rw [List.getLast?_eq_getElem?, size_data, List.getElem?_eq_getElem (by rw [size_data]; exact hkl)]
    rfl
  unfold quoB
  rw [size_data, decide_eq_true h, hh, hg, Bool.true_and]
  congr 1
  · rw [Bool.eq_iff_iff, decide_eq_true_eq, decide_eq_true_eq]
    exact ⟨fun e => by injection e with e; rw [e]; rfl, fun e => by congr 1; exact UInt8.toNat_inj.1 e⟩
  · rw [Bool.eq_iff_iff, decide_eq_true_eq, decide_eq_true_eq]
    exact ⟨fun e => by injection e with e; rw [e]; rfl, fun e => by congr 1; exact UInt8.toNat_inj.1 e⟩

theorem schN_le (l : List UInt8) : schN l ≤ l.length := by
  rw [schN_eq]
  split
  · exact (List.takeWhile_prefix _).length_le
  · exact Nat.zero_le _

/-- What stands behind the port: a path or nothing. -/
theorem path_nil {p : List UInt8} (h : p = []) : spathB p = true := by rw [h]; rfl

theorem spath_head {p : List UInt8} {c : UInt8} (h : p.head? = some c) (hc : c ≠ 47) : spathB p = false := by
  cases p with
  | nil => cases h
  | cons d r =>
    have : d = c := by simpa using h
    subst this
    rw [path_step (by simp), decide_eq_false (by simpa using hc), Bool.false_and]

theorem path_full {p : List UInt8} (h : p = [] ∨ p.head? = some 47) : spathB p = p.all pcB := by
  unfold spathB
  rw [decide_eq_true h, Bool.true_and]

set_option maxHeartbeats 16000000 in
theorem rsource_any (s : ByteArray) (hs : s.size ≤ 1048576) (w : World) :
    Calls Tryz.prog 13 #[.string s] w fun e w' => e = .returned (expV (srcP s.data.toList)) ∧ Below w.heap.size w w' := by
  have hz := zero_cells Tryz.infoExp9
  obtain ⟨R, hR⟩ : ∃ R, R = srcP s.data.toList := ⟨_, rfl⟩
  rw [← hR]
  obtain ⟨w0, hw0⟩ : ∃ w0 : World, w0 = w.alloc (.cells #[.int .i64 0, .string ⟨#[]⟩, .string ⟨#[]⟩, .string ⟨#[]⟩, .string ⟨#[]⟩] 27) := ⟨_, rfl⟩
  have HW0 := Lib.hid hw0
  have HZ0 : Hid (Rw w0 0 w.heap.size 27 [.int .i64 0, .string ⟨#[]⟩, .string ⟨#[]⟩, .string ⟨#[]⟩, .string ⟨#[]⟩]) := Lib.hid (by rw [hw0]; exact Rw.alloc w _ _ (Nat.zero_le _))
  have HK0 : Hid (Kept (fun _ => False) w0 w0) := Lib.hid (kept_refl _ _)
  have HSM := Lib.hid (fun W => ref_same_any s ⟨#[39, 115, 101, 108, 102, 39]⟩ (by omega) (by decide) W)
  have hsm : sameB s.data.toList (⟨#[39, 115, 101, 108, 102, 39]⟩ : ByteArray).data.toList = decide (lowL s.data.toList = selfQ) := by
    show decide (lowL s.data.toList = lowL selfQ) = _
    rw [low_self]
  rw [hsm] at HSM
  clear hsm
  by_cases h42 : s.data.toList = [42]
  · have HRes : Hid (R = ⟨1, [], [], [], []⟩) := Lib.hid (hR.trans (src_star h42))
    have q := lit_yes h42
    clear hR h42
    go_enter Tryz.func13, Tryz.ntmps13
    go_wp2_with fail
    refine bodyPost_ret (v := expV ⟨1, [], [], [], []⟩) ?_ rfl ⟨by rw [HRes.out], below_more (Below.refl _ _) _⟩
    exact results_row1 rfl _ _ w.heap.size 0 27 [.int .i64 1, .string ⟨#[]⟩, .string ⟨#[]⟩, .string ⟨#[]⟩, .string ⟨#[]⟩] _ rfl (Rw.alloc w _ _ (Nat.zero_le _)) Tryz.underlying27 rfl Tryz.sizeExp9
  have q := lit_no h42
  by_cases hself : lowL s.data.toList = selfQ
  · have HRes : Hid (R = ⟨2, [], [], [], []⟩) := Lib.hid (hR.trans (src_self h42 hself))
    rw [decide_eq_true hself] at HSM
    clear hR h42 hself
    go_enter Tryz.func13, Tryz.ntmps13
    go_wp2_with fail
    rw [← hw0]
    clear hw0
    refine (HSM.out _).mono ?_
    rintro e w1 ⟨rfl, hb1⟩
    have HK1 := Lib.hid (below_keep HK0.out hb1)
    clear hb1
    have hzr := rw_kept HZ0.out HK1.out (fun x => x)
    have z0 := Rw.cell hzr (j := 0) rfl
    have z1 := Rw.cell hzr (j := 1) rfl
    have z2 := Rw.cell hzr (j := 2) rfl
    have z3 := Rw.cell hzr (j := 3) rfl
    have z4 := Rw.cell hzr (j := 4) rfl
    have y0 := Rw.free hzr 0
    have y1 := Rw.free hzr 1
    have y2 := Rw.free hzr 2
    have y3 := Rw.free hzr 3
    have y4 := Rw.free hzr 4
    clear hzr
    go_wp2_with fail
    obtain ⟨E1, E2⟩ := exp9_end HW0.out HK1.out 2 ⟨#[]⟩ ⟨#[]⟩ ⟨#[]⟩ ⟨#[]⟩
    refine bodyPost_ret (v := expV ⟨2, [], [], [], []⟩) ?_ rfl ⟨by rw [HRes.out] <;> rfl, E2⟩
    exact results_row1 rfl _ _ w.heap.size 0 27 [.int .i64 2, .string ⟨#[]⟩, .string ⟨#[]⟩, .string ⟨#[]⟩, .string ⟨#[]⟩] _ rfl E1 Tryz.underlying27 rfl Tryz.sizeExp9
  rw [decide_eq_false hself] at HSM
  obtain ⟨Q5, hQ5⟩ : ∃ Q5, Q5 = quoB s.data.toList := ⟨_, rfl⟩
  have H42 := Lib.hid h42
  have HSE := Lib.hid hself
  have HRR := Lib.hid hR
  have H5 := Lib.hid hQ5
  have HS := Lib.hid hs
  have HSC := Lib.hid (fun W => rscheme_any s (by omega) W)
  clear hR h42 hself hQ5
  go_enter Tryz.func13, Tryz.ntmps13
  go_wp2_with fail
  rw [← hw0]
  clear hw0
  refine (HSM.out _).mono ?_
  rintro e w1 ⟨rfl, hb1⟩
  have HK1 := Lib.hid (below_keep HK0.out hb1)
  clear hb1
  go_upto_region 5 with fail
  go_cut [15] from 16 (fun c15 wx => c15 = .bool Q5 ∧ wx = w1)
  case first =>
    by_cases h2 : 2 ≤ s.size
    · have hks : 0 < s.size := by omega
      have hkl : s.size - 1 < s.size := by omega
      have hq := H5.out.trans (quo_parts h2)
      have hl2 : (2 : Int) ≤ (s.size : Int) := by omega
      have hl0 : (0 : Int) < (s.size : Int) := by omega
      by_cases ha39 : s[0].toNat = 39
      · have q1 : ((s[0].toNat : Int) == 39) = true := by rw [beq_iff_eq]; omega
        rw [decide_eq_true ha39, Bool.true_and] at hq
        have hq2 : (((s[s.size - 1]'hkl).toNat : Int) == 39) = Q5 := by
          rw [hq, Bool.eq_iff_iff, beq_iff_eq, decide_eq_true_eq]
          omega
        clear hq ha39
        cases Q5
        · go_wp2_with fail
          go_meet
          exact ⟨by first | rfl | (rw [hq2]), rfl⟩
        · go_wp2_with fail
          go_meet
          exact ⟨by first | rfl | (rw [hq2]), rfl⟩
      · have q1 : ((s[0].toNat : Int) == 39) = false := by rw [beq_eq_false_iff_ne]; omega
        rw [decide_eq_false ha39, Bool.false_and] at hq
        subst hq
        clear ha39
        go_wp2_with fail
        go_meet
        exact ⟨rfl, rfl⟩
    · have hq := H5.out.trans (quo_no1 (by omega))
      subst hq
      have hl2 : ¬ (2 : Int) ≤ (s.size : Int) := by omega
      clear h2
      go_wp2_with fail
      go_meet
      exact ⟨rfl, rfl⟩
  case rest =>
    obtain ⟨rfl, hwx⟩ := hcut
    rw [hwx]
    clear hwx
    cases Q5
    case true =>
      have HRes : Hid (R = ⟨5, [], [], [], []⟩) := Lib.hid (HRR.out.trans (src_quo H42.out HSE.out H5.out.symm))
      have hzr := rw_kept HZ0.out HK1.out (fun x => x)
      have z0 := Rw.cell hzr (j := 0) rfl
      have z1 := Rw.cell hzr (j := 1) rfl
      have z2 := Rw.cell hzr (j := 2) rfl
      have z3 := Rw.cell hzr (j := 3) rfl
      have z4 := Rw.cell hzr (j := 4) rfl
      have y0 := Rw.free hzr 0
      have y1 := Rw.free hzr 1
      have y2 := Rw.free hzr 2
      have y3 := Rw.free hzr 3
      have y4 := Rw.free hzr 4
      clear hzr
      go_wp2_with fail
      obtain ⟨E1, E2⟩ := exp9_end HW0.out HK1.out 5 ⟨#[]⟩ ⟨#[]⟩ ⟨#[]⟩ ⟨#[]⟩
      refine bodyPost_ret (v := expV ⟨5, [], [], [], []⟩) ?_ rfl ⟨by rw [HRes.out] <;> rfl, E2⟩
      exact results_row1 rfl _ _ w.heap.size 0 27 [.int .i64 5, .string ⟨#[]⟩, .string ⟨#[]⟩, .string ⟨#[]⟩, .string ⟨#[]⟩] _ rfl E1 Tryz.underlying27 rfl Tryz.sizeExp9
    case false =>
      obtain ⟨k, hk⟩ : ∃ k, k = schN s.data.toList := ⟨_, rfl⟩
      rw [← hk] at HSC
      have HKK := Lib.hid hk
      have hkl : k ≤ s.size := by rw [hk, ← size_data]; exact schN_le _
      clear hk
      go_wp2_with fail
      refine (HSC.out _).mono ?_
      rintro e w2 ⟨rfl, rfl⟩
      obtain ⟨Q8, hQ8⟩ : ∃ Q8, Q8 = decide (0 < k ∧ k + 1 = s.size) := ⟨_, rfl⟩
      go_upto_region 8 with fail
      go_cut [43] from 35 (fun c43 wx => c43 = .bool Q8 ∧ wx = w2)
      case first =>
        by_cases hk0 : 0 < k
        · have c1 : (0 : Int) < (k : Int) := by omega
          by_cases hk1 : k + 1 = s.size
          · have q8 : ((k : Int) + 1 == (s.size : Int)) = true := by rw [beq_iff_eq]; omega
            rw [decide_eq_true ⟨hk0, hk1⟩] at hQ8
            subst hQ8
            clear hk0 hk1
            go_wp2_with fail
            go_meet
            exact ⟨rfl, rfl⟩
          · have q8 : ((k : Int) + 1 == (s.size : Int)) = false := by rw [beq_eq_false_iff_ne]; omega
            rw [decide_eq_false (fun x => hk1 x.2)] at hQ8
            subst hQ8
            clear hk0 hk1
            go_wp2_with fail
            go_meet
            exact ⟨rfl, rfl⟩
        · have c1 : ¬ (0 : Int) < (k : Int) := by omega
          rw [decide_eq_false (fun x => hk0 x.1)] at hQ8
          subst hQ8
          clear hk0
          go_wp2_with fail
          go_meet
          exact ⟨rfl, rfl⟩
      case rest =>
        obtain ⟨rfl, hwx⟩ := hcut
        rw [hwx]
        clear hwx
        by_cases h8 : 0 < k ∧ k + 1 = s.size
        · rw [decide_eq_true h8] at hQ8
          subst hQ8
          have hki : (k : Int) ≤ (s.size : Int) := by omega
          have hex : (s.extract 0 k).data.toList = s.data.toList.take k := by rw [cut_mid]; rfl
          have HLO := Lib.hid (fun W => ref_lower_any (s.extract 0 k) (by rw [← size_data, hex, List.length_take, size_data]; omega) W)
          rw [hex] at HLO
          obtain ⟨x, hx⟩ : ∃ x : ByteArray, x = ⟨(lowL (s.data.toList.take k)).toArray⟩ := ⟨_, rfl⟩
          rw [← hx] at HLO
          have HRes : Hid (R = ⟨3, x.data.toList, [], [], []⟩) := Lib.hid (by
            rw [HRR.out, src_sch H42.out HSE.out H5.out.symm (by rw [← HKK.out, size_data]; exact h8), ← HKK.out, hx])
          clear hex hx h8
          go_wp2_with fail
          refine (HLO.out _).mono ?_
          rintro e w3 ⟨rfl, hb3⟩
          have HK3 := Lib.hid (below_keep HK1.out hb3)
          clear hb3
          have hzr := rw_kept HZ0.out HK3.out (fun x => x)
          have z0 := Rw.cell hzr (j := 0) rfl
          have z1 := Rw.cell hzr (j := 1) rfl
          have z2 := Rw.cell hzr (j := 2) rfl
          have z3 := Rw.cell hzr (j := 3) rfl
          have z4 := Rw.cell hzr (j := 4) rfl
          have y0 := Rw.free hzr 0
          have y1 := Rw.free hzr 1
          have y2 := Rw.free hzr 2
          have y3 := Rw.free hzr 3
          have y4 := Rw.free hzr 4
          clear hzr
          go_wp2_with fail
          obtain ⟨E1, E2⟩ := exp9_end HW0.out HK3.out 3 x ⟨#[]⟩ ⟨#[]⟩ ⟨#[]⟩
          refine bodyPost_ret (v := expV ⟨3, x.data.toList, [], [], []⟩) ?_ rfl ⟨by rw [HRes.out] <;> rfl, E2⟩
          exact results_row1 rfl _ _ w.heap.size 0 27 [.int .i64 3, .string x, .string ⟨#[]⟩, .string ⟨#[]⟩, .string ⟨#[]⟩] _ rfl E1 Tryz.underlying27 rfl Tryz.sizeExp9
        · rw [decide_eq_false h8] at hQ8
          subst hQ8
          have H8 := Lib.hid (show ¬ (0 < schN s.data.toList ∧ schN s.data.toList + 1 = s.data.toList.length) by rw [← HKK.out, size_data]; exact h8)
          clear h8
          obtain ⟨g, hg⟩ : ∃ g, g = w2.heap.size := ⟨_, rfl⟩
          have HG : Hid (w0.heap.size ≤ g) := Lib.hid (by rw [hg]; exact HK1.out.size)
          obtain ⟨w3, hw3⟩ : ∃ w3 : World, w3 = w2.alloc (.cells #[.int .i64 4, .string ⟨#[]⟩, .string ⟨#[]⟩, .string ⟨#[]⟩, .string ⟨#[]⟩] 27) := ⟨_, rfl⟩
          have HE3 : Hid (Rw w3 0 g 27 [.int .i64 4, .string ⟨#[]⟩, .string ⟨#[]⟩, .string ⟨#[]⟩, .string ⟨#[]⟩]) := Lib.hid (by rw [hw3, hg]; exact Rw.alloc w2 _ _ (Nat.zero_le _))
          have HK3 : Hid (Kept (fun _ => False) w0 w3) := Lib.hid (by rw [hw3]; exact below_keep HK1.out (below_more (Below.refl _ _) _))
          obtain ⟨Q11, hQ11⟩ : ∃ Q11, Q11 = decide (0 < k ∧ (s.data.toList.drop k).take 3 = [58, 47, 47]) := ⟨_, rfl⟩
          go_upto_region 11 with fail
          rw [← hw3, ← hg]
          clear hw3 hg
          go_cut [66] from 50 (fun c66 wx => c66 = .bool Q11 ∧ wx = w3)
          case first =>
            by_cases hk0 : 0 < k
            · have c1 : (0 : Int) < (k : Int) := by omega
              by_cases hk3 : k + 3 ≤ s.size
              · have c2 : (k : Int) + 3 ≤ (s.size : Int) := by omega
                have hex : (s.extract k (k + 3)).data.toList = (s.data.toList.drop k).take 3 := by
                  rw [cut_mid, List.drop_take, show k + 3 - k = 3 from by omega]
                by_cases h3 : (s.data.toList.drop k).take 3 = [58, 47, 47]
                · have q3 : ((s.extract k (k + 3)).toList == [58, 47, 47]) = true := lit_yes (hex.trans h3)
                  rw [decide_eq_true ⟨hk0, h3⟩] at hQ11
                  subst hQ11
                  clear hk0 hk3 hex h3
                  go_wp2_with fail
                  go_meet
                  exact ⟨rfl, rfl⟩
                · have q3 : ((s.extract k (k + 3)).toList == [58, 47, 47]) = false := lit_no (fun e => h3 (hex.symm.trans e))
                  rw [decide_eq_false (fun x => h3 x.2)] at hQ11
                  subst hQ11
                  clear hk0 hk3 hex h3
                  go_wp2_with fail
                  go_meet
                  exact ⟨rfl, rfl⟩
              · have c2 : ¬ (k : Int) + 3 ≤ (s.size : Int) := by omega
                rw [decide_eq_false (fun x => by
                  have h5 := congrArg List.length x.2
                  rw [List.length_take, List.length_drop, size_data] at h5
                  simp at h5
                  omega)] at hQ11
                subst hQ11
                clear hk0 hk3
                go_wp2_with fail
                go_meet
                exact ⟨rfl, rfl⟩
            · have c1 : ¬ (0 : Int) < (k : Int) := by omega
              rw [decide_eq_false (fun x => hk0 x.1)] at hQ11
              subst hQ11
              clear hk0
              go_wp2_with fail
              go_meet
              exact ⟨rfl, rfl⟩
          case rest =>
            obtain ⟨rfl, hwx⟩ := hcut
            rw [hwx]
            clear hwx
            go_upto_if 66 with fail
            go_cut [0] from 67 (fun c0 wx => ∃ t sc : ByteArray, c0 = .string t ∧ Hid (Rw wx 0 g 27 [.int .i64 4, .string sc, .string ⟨#[]⟩, .string ⟨#[]⟩, .string ⟨#[]⟩]) ∧ Hid (Kept (fun _ => False) w0 wx) ∧ Hid (R = tailS sc.data.toList t.data.toList) ∧ Hid (t.size ≤ 1048576))
            case first =>
              by_cases h11 : 0 < k ∧ (s.data.toList.drop k).take 3 = [58, 47, 47]
              · rw [decide_eq_true h11] at hQ11
                subst hQ11
                have hki : (k : Int) ≤ (s.size : Int) := by omega
                have hki0 : (0 : Int) ≤ (k : Int) := by omega
                have hk3 : k + 3 ≤ s.size := by
                  have h5 := congrArg List.length h11.2
                  rw [List.length_take, List.length_drop, size_data] at h5
                  simp at h5
                  omega
                have hk3i : (k : Int) + 3 ≤ (s.size : Int) := by omega
                have hex : (s.extract 0 k).data.toList = s.data.toList.take k := by rw [cut_mid]; rfl
                have HLS := Lib.hid (fun W => ref_lower_any (s.extract 0 k) (by rw [← size_data, hex, List.length_take, size_data]; omega) W)
                rw [hex] at HLS
                obtain ⟨sc, hsc⟩ : ∃ sc : ByteArray, sc = ⟨(lowL (s.data.toList.take k)).toArray⟩ := ⟨_, rfl⟩
                rw [← hsc] at HLS
                obtain ⟨t, ht⟩ : ∃ t : ByteArray, t = s.extract (k + 3) s.size := ⟨_, rfl⟩
                have ht' : s.extract (k + 3) s.size = t := ht.symm
                have htl : t.data.toList = s.data.toList.drop (k + 3) := by rw [ht]; exact cut_tail hk3
                have HTS : Hid (t.size ≤ 1048576) := Lib.hid (by rw [← size_data, htl, List.length_drop, size_data]; have := HS.out; omega)
                have HRT : Hid (R = tailS sc.data.toList t.data.toList) := Lib.hid (by
                  rw [HRR.out, src_with H42.out HSE.out H5.out.symm H8.out (by rw [← HKK.out]; exact h11), ← HKK.out, htl, hsc])
                clear hex hsc ht htl h11
                go_wp2_with fail
                refine (HLS.out _).mono ?_
                rintro e w4 ⟨rfl, hb4⟩
                have HK4 := Lib.hid (below_keep HK3.out hb4)
                have hrow4 := Rw.below HE3.out hb4
                have f1 := Rw.free hrow4 1
                have d1 := Rw.cell hrow4 (j := 1) rfl
                obtain ⟨p1, p2⟩ := put_new HK4.out HG.out hrow4 1 (.string sc)
                have HP1 := Lib.hid p1
                have HP2 := Lib.hid p2
                clear p1 p2 hb4 hrow4
                go_wp2_with fail
                go_meet
                exact ⟨t, sc, congrArg Value.string ht', HP1, HP2, HRT, HTS⟩
              · rw [decide_eq_false h11] at hQ11
                subst hQ11
                have HRT : Hid (R = tailS (⟨#[]⟩ : ByteArray).data.toList s.data.toList) := Lib.hid (by
                  rw [HRR.out, src_bare H42.out HSE.out H5.out.symm H8.out (by rw [← HKK.out]; exact h11)])
                clear h11
                go_wp2_with fail
                go_meet
                exact ⟨s, ⟨#[]⟩, rfl, HE3, HK3, HRT, HS⟩
            case rest =>
              obtain ⟨t, sc, rfl, HE5, HK5, HRT, HTS⟩ := hcut
              clear HE3 HK3 HSM HK1 HSC hkl hQ11 HRR H42 HSE H5 HKK H8
              generalize wc = w5 at *
              have HHN := Lib.hid (shostn_any t (by have := HTS.out; omega) w5)
              obtain ⟨m, hm⟩ : ∃ m, m = hostN t.data.toList := ⟨_, rfl⟩
              have hml : m ≤ t.size := by rw [hm, ← size_data]; exact host_le _
              rw [← hm] at HHN
              have HM := Lib.hid hm
              clear hm
              go_wp2_with fail
              refine HHN.out.mono ?_
              rintro e wa ⟨rfl, rfl⟩
              by_cases hm0 : m = 0
              · have HRes : Hid (R = expZ) := Lib.hid (by rw [HRT.out]; unfold tailS; rw [← HM.out, if_pos hm0])
                have q0 : ((m : Int) == 0) = true := by rw [beq_iff_eq]; omega
                clear hm0
                have hzr := rw_kept HZ0.out HK5.out (fun x => x)
                have z0 := Rw.cell hzr (j := 0) rfl
                have z1 := Rw.cell hzr (j := 1) rfl
                have z2 := Rw.cell hzr (j := 2) rfl
                have z3 := Rw.cell hzr (j := 3) rfl
                have z4 := Rw.cell hzr (j := 4) rfl
                have y0 := Rw.free hzr 0
                have y1 := Rw.free hzr 1
                have y2 := Rw.free hzr 2
                have y3 := Rw.free hzr 3
                have y4 := Rw.free hzr 4
                clear hzr
                go_wp2_with fail
                obtain ⟨E1, E2⟩ := exp9_end HW0.out HK5.out 0 ⟨#[]⟩ ⟨#[]⟩ ⟨#[]⟩ ⟨#[]⟩
                refine bodyPost_ret (v := expV ⟨0, [], [], [], []⟩) ?_ rfl ⟨by rw [HRes.out] <;> rfl, E2⟩
                exact results_row1 rfl _ _ w.heap.size 0 27 [.int .i64 0, .string ⟨#[]⟩, .string ⟨#[]⟩, .string ⟨#[]⟩, .string ⟨#[]⟩] _ rfl E1 Tryz.underlying27 rfl Tryz.sizeExp9
              have q0 : ((m : Int) == 0) = false := by rw [beq_eq_false_iff_ne]; omega
              have HM0 := Lib.hid hm0
              have hmi : (m : Int) ≤ (t.size : Int) := by omega
              have hmm0 : (0 : Int) ≤ (m : Int) := by omega
              have hex : (t.extract 0 m).data.toList = t.data.toList.take m := by rw [cut_mid]; rfl
              have HLO := Lib.hid (fun W => ref_lower_any (t.extract 0 m) (by rw [← size_data, hex, List.length_take, size_data]; have := HTS.out; omega) W)
              rw [hex] at HLO
              obtain ⟨ho, hho⟩ : ∃ ho : ByteArray, ho = ⟨(lowL (t.data.toList.take m)).toArray⟩ := ⟨_, rfl⟩
              rw [← hho] at HLO
              have HHO : Hid (lowL (t.data.toList.take m) = ho.data.toList) := Lib.hid (by rw [hho])
              obtain ⟨r, hr⟩ : ∃ r : ByteArray, r = t.extract m t.size := ⟨_, rfl⟩
              have hr' : t.extract m t.size = r := hr.symm
              have HRL : Hid (r.data.toList = t.data.toList.drop m) := Lib.hid (by rw [hr]; exact cut_tail hml)
              have HRS : Hid (r.size ≤ 1048576) := Lib.hid (by rw [← size_data, HRL.out, List.length_drop, size_data]; have := HTS.out; omega)
              have HR2 : Hid (R = behS sc.data.toList (t.data.toList.take m) r.data.toList) := Lib.hid (by
                rw [HRT.out]
                unfold tailS behS
                rw [← HM.out, if_neg HM0.out, HRL.out]
                simp only [List.drop_drop]
                all_goals rfl)
              clear hm0 hex hho hr
              go_wp2_with fail
              refine (HLO.out _).mono ?_
              rintro e wb ⟨rfl, hbb⟩
              have HKB0 := Lib.hid (below_keep HK5.out hbb)
              have hrow := Rw.below HE5.out hbb
              have f2 := Rw.free hrow 2
              have d2 := Rw.cell hrow (j := 2) rfl
              obtain ⟨p1, p2⟩ := put_new HKB0.out HG.out hrow 2 (.string ho)
              obtain ⟨wC, hwc⟩ : ∃ wC, wC = wb.setCell ⟨g, 2, none⟩ (.string ho) := ⟨_, rfl⟩
              rw [← hwc] at p1 p2
              have hwc' : wb.setCell ⟨g, 2, none⟩ (.string ho) = wC := hwc.symm
              have HEC : Hid (Rw wC 0 g 27 [.int .i64 4, .string sc, .string ho, .string ⟨#[]⟩, .string ⟨#[]⟩]) := Lib.hid p1
              have HKC := Lib.hid p2
              clear p1 p2 hwc hbb hrow
              obtain ⟨Q19, hQ19⟩ : ∃ Q19, Q19 = decide (r.data.toList.head? = some 58) := ⟨_, rfl⟩
              go_upto_region 19 with fail
              go_cut [95] from 89 (fun c95 wx => c95 = .bool Q19 ∧ wx = wC)
              case first =>
                by_cases hp0 : r.size = 0
                · have yp := emptyYes hp0
                  rw [decide_eq_false (by rw [show r.data.toList = [] from List.eq_nil_of_length_eq_zero (by rw [size_data]; exact hp0)]; simp)] at hQ19
                  subst hQ19
                  clear hp0
                  go_wp2_with fail
                  go_meet
                  exact ⟨rfl, rfl⟩
                · have yp := emptyNo hp0
                  have hpp : 0 < r.size := by omega
                  have hpi : (0 : Int) < (r.size : Int) := by omega
                  have hh := head_of r hpp
                  by_cases h58 : r[0].toNat = 58
                  · have q58 : ((r[0].toNat : Int) == 58) = true := by rw [beq_iff_eq]; omega
                    rw [decide_eq_true (by rw [hh, UInt8.toNat_inj.1 (show r[0].toNat = (58 : UInt8).toNat from h58)])] at hQ19
                    subst hQ19
                    clear hp0 hh h58
                    go_wp2_with fail
                    go_meet
                    exact ⟨rfl, rfl⟩
                  · have q58 : ((r[0].toNat : Int) == 58) = false := by rw [beq_eq_false_iff_ne]; omega
                    rw [decide_eq_false (by
                      rw [hh]
                      intro e
                      injection e with e
                      exact h58 (by rw [e]; rfl))] at hQ19
                    subst hQ19
                    clear hp0 hh h58
                    go_wp2_with fail
                    go_meet
                    exact ⟨rfl, rfl⟩
              case rest =>
                obtain ⟨rfl, hwx⟩ := hcut
                rw [hwx]
                clear hwx
                go_upto_if 95 with fail
                go_cut [0, 5] from 96 (fun c0 c5 wx => ∃ p po : ByteArray, c0 = .string p ∧ Hid (Rw wx 0 g 27 [.int .i64 4, .string sc, .string ho, .string po, .string ⟨#[]⟩]) ∧ Hid (Kept (fun _ => False) w0 wx) ∧ Hid (R = if spathB p.data.toList = true then ⟨4, sc.data.toList, ho.data.toList, po.data.toList, p.data.toList⟩ else expZ) ∧ Hid (p.size ≤ 1048576))
                case rest =>
                  obtain ⟨p, po, rfl, HED, HKD, HRP, HPS⟩ := hcut
                  clear HEC HKC HR2 HLO HRL HRS hQ19 HM HM0 HTS HRT HHN HHO hr' hml q0 hmi hmm0
                  generalize wc = wd at *
                  obtain ⟨Q29, hQ29⟩ : ∃ Q29, Q29 = decide (¬ (p.data.toList = [] ∨ p.data.toList.head? = some 47)) := ⟨_, rfl⟩
                  have H29 := Lib.hid hQ29
                  go_upto_region 29 with fail
                  go_cut [136] from 130 (fun c136 wx => c136 = .bool Q29 ∧ wx = wd)
                  case first =>
                    by_cases hp0 : p.size = 0
                    · have yp := emptyYes hp0
                      rw [decide_eq_false (fun x => x (.inl (List.eq_nil_of_length_eq_zero (by rw [size_data]; exact hp0))))] at hQ29
                      subst hQ29
                      clear hp0
                      go_wp2_with fail
                      go_meet
                      exact ⟨rfl, rfl⟩
                    · have yp := emptyNo hp0
                      have hpp : 0 < p.size := by omega
                      have hpi : (0 : Int) < (p.size : Int) := by omega
                      have hh := head_of p hpp
                      by_cases h47 : p[0].toNat = 47
                      · have q47 : ((p[0].toNat : Int) != 47) = false := by rw [bne_eq_false_iff_eq]; omega
                        rw [decide_eq_false (fun x => x (.inr (by rw [hh, UInt8.toNat_inj.1 (show p[0].toNat = (47 : UInt8).toNat from h47)])))] at hQ29
                        subst hQ29
                        clear hp0 hh h47
                        go_wp2_with fail
                        go_meet
                        exact ⟨rfl, rfl⟩
                      · have q47 : ((p[0].toNat : Int) != 47) = true := by rw [bne_iff_ne]; omega
                        rw [decide_eq_true (by
                          rintro (e | e)
                          · exact ne_of_size hp0 e
                          · rw [hh] at e
                            injection e with e
                            exact h47 (by rw [e]; rfl))] at hQ29
                        subst hQ29
                        clear hp0 hh h47
                        go_wp2_with fail
                        go_meet
                        exact ⟨rfl, rfl⟩
                  case rest =>
                    obtain ⟨rfl, hwx⟩ := hcut
                    rw [hwx]
                    clear hwx
                    by_cases h29 : p.data.toList = [] ∨ p.data.toList.head? = some 47
                    · rw [decide_eq_false (fun x => x h29)] at hQ29
                      subst hQ29
                      have HPF := Lib.hid (path_full h29)
                      clear h29
                      go_wp2_with fail
                      go_loop [6] (fun i => ∃ q : Nat, q ≤ p.size ∧ i = .int .i64 q ∧ Hid ((p.data.toList.take q).all pcB = true)) (fun i => p.size - (intOf i).toNat)
                      case atStart => exact ⟨0, Nat.zero_le _, rfl, Lib.hid rfl⟩
                      case round =>
                        obtain ⟨q, hq, rfl, HN⟩ := hrel
                        have hqz : (q : Int) ≤ 1048576 := by have := HPS.out; omega
                        by_cases hlt : q < p.size
                        · have HT := Lib.hid (pc_at p q hlt)
                          have HNX := Lib.hid (fun h => all_next (p := pcB) hlt HN.out h)
                          have hf : pcB p[q] = (decide (33 ≤ p[q].toNat ∧ p[q].toNat ≤ 126) && !hasB [63, 35, 59, 44] p[q]) := rfl
                          have HHS := Lib.hid (ref_has_any ⟨#[63, 35, 59, 44]⟩ p[q] (by decide) wd)
                          rw [show (⟨#[63, 35, 59, 44]⟩ : ByteArray).data.toList = [63, 35, 59, 44] from rfl] at HHS
                          by_cases c1 : (p[q].toNat : Int) < 33
                          · have HRes : Hid (R = expZ) := Lib.hid (by rw [HRP.out, HPF.out, HT.out (by rw [hf, decide_eq_false (by omega)]; rfl)]; rfl)
                            clear hf
                            have hzr := rw_kept HZ0.out HKD.out (fun x => x)
                            have z0 := Rw.cell hzr (j := 0) rfl
                            have z1 := Rw.cell hzr (j := 1) rfl
                            have z2 := Rw.cell hzr (j := 2) rfl
                            have z3 := Rw.cell hzr (j := 3) rfl
                            have z4 := Rw.cell hzr (j := 4) rfl
                            have y0 := Rw.free hzr 0
                            have y1 := Rw.free hzr 1
                            have y2 := Rw.free hzr 2
                            have y3 := Rw.free hzr 3
                            have y4 := Rw.free hzr 4
                            clear hzr
                            go_wp2_with fail
                            obtain ⟨E1, E2⟩ := exp9_end HW0.out HKD.out 0 ⟨#[]⟩ ⟨#[]⟩ ⟨#[]⟩ ⟨#[]⟩
                            refine bodyPost_ret (v := expV ⟨0, [], [], [], []⟩) ?_ rfl ⟨by rw [HRes.out] <;> rfl, E2⟩
                            exact results_row1 rfl _ _ w.heap.size 0 27 [.int .i64 0, .string ⟨#[]⟩, .string ⟨#[]⟩, .string ⟨#[]⟩, .string ⟨#[]⟩] _ rfl E1 Tryz.underlying27 rfl Tryz.sizeExp9
                          · by_cases c2 : 126 < (p[q].toNat : Int)
                            · have HRes : Hid (R = expZ) := Lib.hid (by rw [HRP.out, HPF.out, HT.out (by rw [hf, decide_eq_false (by omega)]; rfl)]; rfl)
                              clear hf
                              have hzr := rw_kept HZ0.out HKD.out (fun x => x)
                              have z0 := Rw.cell hzr (j := 0) rfl
                              have z1 := Rw.cell hzr (j := 1) rfl
                              have z2 := Rw.cell hzr (j := 2) rfl
                              have z3 := Rw.cell hzr (j := 3) rfl
                              have z4 := Rw.cell hzr (j := 4) rfl
                              have y0 := Rw.free hzr 0
                              have y1 := Rw.free hzr 1
                              have y2 := Rw.free hzr 2
                              have y3 := Rw.free hzr 3
                              have y4 := Rw.free hzr 4
                              clear hzr
                              go_wp2_with fail
                              obtain ⟨E1, E2⟩ := exp9_end HW0.out HKD.out 0 ⟨#[]⟩ ⟨#[]⟩ ⟨#[]⟩ ⟨#[]⟩
                              refine bodyPost_ret (v := expV ⟨0, [], [], [], []⟩) ?_ rfl ⟨by rw [HRes.out] <;> rfl, E2⟩
                              exact results_row1 rfl _ _ w.heap.size 0 27 [.int .i64 0, .string ⟨#[]⟩, .string ⟨#[]⟩, .string ⟨#[]⟩, .string ⟨#[]⟩] _ rfl E1 Tryz.underlying27 rfl Tryz.sizeExp9
                            · rw [decide_eq_true (by omega), Bool.true_and] at hf
                              cases c3 : hasB [63, 35, 59, 44] p[q]
                              · have HF := Lib.hid (HNX.out (by rw [hf, c3]; rfl))
                                rw [c3] at HHS
                                clear hf c3 HNX HT
                                go_wp2_with fail
                                refine HHS.out.mono ?_
                                rintro e wx ⟨rfl, rfl⟩
                                go_wp2_with fail
                                go_round
                                case rel => exact ⟨q + 1, by omega, by go_num, HF⟩
                                case measure => simp [intOf]; omega
                              · have HRes : Hid (R = expZ) := Lib.hid (by rw [HRP.out, HPF.out, HT.out (by rw [hf, c3]; rfl)]; rfl)
                                rw [c3] at HHS
                                clear hf c3 HNX HT
                                go_wp2_with fail
                                refine HHS.out.mono ?_
                                rintro e wx ⟨rfl, rfl⟩
                                have hzr := rw_kept HZ0.out HKD.out (fun x => x)
                                have z0 := Rw.cell hzr (j := 0) rfl
                                have z1 := Rw.cell hzr (j := 1) rfl
                                have z2 := Rw.cell hzr (j := 2) rfl
                                have z3 := Rw.cell hzr (j := 3) rfl
                                have z4 := Rw.cell hzr (j := 4) rfl
                                have y0 := Rw.free hzr 0
                                have y1 := Rw.free hzr 1
                                have y2 := Rw.free hzr 2
                                have y3 := Rw.free hzr 3
                                have y4 := Rw.free hzr 4
                                clear hzr
                                go_wp2_with fail
                                obtain ⟨E1, E2⟩ := exp9_end HW0.out HKD.out 0 ⟨#[]⟩ ⟨#[]⟩ ⟨#[]⟩ ⟨#[]⟩
                                refine bodyPost_ret (v := expV ⟨0, [], [], [], []⟩) ?_ rfl ⟨by rw [HRes.out] <;> rfl, E2⟩
                                exact results_row1 rfl _ _ w.heap.size 0 27 [.int .i64 0, .string ⟨#[]⟩, .string ⟨#[]⟩, .string ⟨#[]⟩, .string ⟨#[]⟩] _ rfl E1 Tryz.underlying27 rfl Tryz.sizeExp9
                        · have HRes : Hid (R = ⟨4, sc.data.toList, ho.data.toList, po.data.toList, p.data.toList⟩) := Lib.hid (by
                            have h1 := HN.out
                            rw [List.take_of_length_le (by rw [size_data]; omega)] at h1
                            rw [HRP.out, HPF.out, h1]
                            rfl)
                          clear HN
                          have f4 := Rw.free HED.out 4
                          have d4 := Rw.cell HED.out (j := 4) rfl
                          obtain ⟨p1, p2⟩ := put_new HKD.out HG.out HED.out 4 (.string p)
                          obtain ⟨wq, hwq⟩ : ∃ wq, wq = wd.setCell ⟨g, 4, none⟩ (.string p) := ⟨_, rfl⟩
                          rw [← hwq] at p1 p2
                          have hwq' : wd.setCell ⟨g, 4, none⟩ (.string p) = wq := hwq.symm
                          have x0 := Rw.cell p1 (j := 0) rfl
                          have x1 := Rw.cell p1 (j := 1) rfl
                          have x2 := Rw.cell p1 (j := 2) rfl
                          have x3 := Rw.cell p1 (j := 3) rfl
                          have x4 := Rw.cell p1 (j := 4) rfl
                          have HKQ := Lib.hid p2
                          clear p1 p2 hwq
                          have hzr := rw_kept HZ0.out HKQ.out (fun x => x)
                          have z0 := Rw.cell hzr (j := 0) rfl
                          have z1 := Rw.cell hzr (j := 1) rfl
                          have z2 := Rw.cell hzr (j := 2) rfl
                          have z3 := Rw.cell hzr (j := 3) rfl
                          have z4 := Rw.cell hzr (j := 4) rfl
                          have y0 := Rw.free hzr 0
                          have y1 := Rw.free hzr 1
                          have y2 := Rw.free hzr 2
                          have y3 := Rw.free hzr 3
                          have y4 := Rw.free hzr 4
                          clear hzr
                          go_wp2_with fail
                          obtain ⟨E1, E2⟩ := exp9_end HW0.out HKQ.out 4 sc ho po p
                          refine bodyPost_ret (v := expV ⟨4, sc.data.toList, ho.data.toList, po.data.toList, p.data.toList⟩) ?_ rfl ⟨by rw [HRes.out] <;> rfl, E2⟩
                          exact results_row1 rfl _ _ w.heap.size 0 27 [.int .i64 4, .string sc, .string ho, .string po, .string p] _ rfl E1 Tryz.underlying27 rfl Tryz.sizeExp9
                    · have HRes : Hid (R = expZ) := Lib.hid (by
                        have hf : spathB p.data.toList = false := by
                          cases hl : p.data.toList with
                          | nil => exact absurd (.inl hl) h29
                          | cons c r =>
                            refine spath_head (c := c) rfl ?_
                            rintro rfl
                            exact h29 (.inr (by rw [hl]; rfl))
                        rw [HRP.out, hf]
                        rfl)
                      rw [decide_eq_true h29] at hQ29
                      subst hQ29
                      clear h29
                      have hzr := rw_kept HZ0.out HKD.out (fun x => x)
                      have z0 := Rw.cell hzr (j := 0) rfl
                      have z1 := Rw.cell hzr (j := 1) rfl
                      have z2 := Rw.cell hzr (j := 2) rfl
                      have z3 := Rw.cell hzr (j := 3) rfl
                      have z4 := Rw.cell hzr (j := 4) rfl
                      have y0 := Rw.free hzr 0
                      have y1 := Rw.free hzr 1
                      have y2 := Rw.free hzr 2
                      have y3 := Rw.free hzr 3
                      have y4 := Rw.free hzr 4
                      clear hzr
                      go_wp2_with fail
                      obtain ⟨E1, E2⟩ := exp9_end HW0.out HKD.out 0 ⟨#[]⟩ ⟨#[]⟩ ⟨#[]⟩ ⟨#[]⟩
                      refine bodyPost_ret (v := expV ⟨0, [], [], [], []⟩) ?_ rfl ⟨by rw [HRes.out] <;> rfl, E2⟩
                      exact results_row1 rfl _ _ w.heap.size 0 27 [.int .i64 0, .string ⟨#[]⟩, .string ⟨#[]⟩, .string ⟨#[]⟩, .string ⟨#[]⟩] _ rfl E1 Tryz.underlying27 rfl Tryz.sizeExp9
                case first =>
                  by_cases h58 : r.data.toList.head? = some 58
                  · rw [decide_eq_true h58] at hQ19
                    subst hQ19
                    have hrp : 0 < r.size := by
                      rw [← size_data]
                      cases hl : r.data.toList with
                      | nil => rw [hl] at h58; cases h58
                      | cons _ _ => simp
                    have H58 := Lib.hid h58
                    have HRP0 := Lib.hid hrp
                    clear h58
                    obtain ⟨Q21, hQ21⟩ : ∃ Q21, Q21 = decide ((r.data.toList.drop 1).head? = some 42) := ⟨_, rfl⟩
                    go_upto_region 21 with fail
                    go_cut [103] from 96 (fun c103 wx => c103 = .bool Q21 ∧ wx = wC)
                    case first =>
                      by_cases hp1 : 1 < r.size
                      · have hpi : (1 : Int) < (r.size : Int) := by omega
                        have hh : (r.data.toList.drop 1).head? = some r[1] := by rw [List.head?_drop, Lib.data_getElem? r 1 hp1]
                        by_cases h42 : r[1].toNat = 42
                        · have q42 : ((r[1].toNat : Int) == 42) = true := by rw [beq_iff_eq]; omega
                          rw [decide_eq_true (by rw [hh, UInt8.toNat_inj.1 (show r[1].toNat = (42 : UInt8).toNat from h42)])] at hQ21
                          subst hQ21
                          clear hh h42
                          go_wp2_with fail
                          go_meet
                          exact ⟨rfl, rfl⟩
                        · have q42 : ((r[1].toNat : Int) == 42) = false := by rw [beq_eq_false_iff_ne]; omega
                          rw [decide_eq_false (by
                            rw [hh]
                            intro e
                            injection e with e
                            exact h42 (by rw [e]; rfl))] at hQ21
                          subst hQ21
                          clear hh h42
                          go_wp2_with fail
                          go_meet
                          exact ⟨rfl, rfl⟩
                      · have hpi : ¬ (1 : Int) < (r.size : Int) := by omega
                        rw [decide_eq_false (by rw [List.drop_of_length_le (by rw [size_data]; omega)]; simp)] at hQ21
                        subst hQ21
                        go_wp2_with fail
                        go_meet
                        exact ⟨rfl, rfl⟩
                    case rest =>
                      obtain ⟨rfl, hwx⟩ := hcut
                      rw [hwx]
                      clear hwx
                      by_cases h42 : (r.data.toList.drop 1).head? = some 42
                      · rw [decide_eq_true h42] at hQ21
                        subst hQ21
                        have HPN := Lib.hid (prt_star H58.out h42)
                        have hmr : 2 ≤ r.size := by
                          rw [← size_data]
                          cases hl : r.data.toList with
                          | nil => rw [hl] at h42; cases h42
                          | cons c u => cases u with
                            | nil => rw [hl] at h42; cases h42
                            | cons d v => simp
                        have hmri : (2 : Int) ≤ (r.size : Int) := by omega
                        clear h42
                        obtain ⟨po, hpo⟩ : ∃ po : ByteArray, po = r.extract 1 2 := ⟨_, rfl⟩
                        have hpo' : r.extract 1 2 = po := hpo.symm
                        have HPO : Hid (po.data.toList = (r.data.toList.take 2).drop 1) := Lib.hid (by rw [hpo]; exact cut_mid _ _ _)
                        obtain ⟨p, hpd⟩ : ∃ p : ByteArray, p = r.extract 2 r.size := ⟨_, rfl⟩
                        have hpd' : r.extract 2 r.size = p := hpd.symm
                        have HPD : Hid (p.data.toList = r.data.toList.drop 2) := Lib.hid (by rw [hpd]; exact cut_tail hmr)
                        have HRP : Hid (R = if spathB p.data.toList = true then ⟨4, sc.data.toList, ho.data.toList, po.data.toList, p.data.toList⟩ else expZ) := Lib.hid (by
                          rw [HR2.out]
                          unfold behS
                          rw [HPN.out, HHO.out, HPO.out, HPD.out])
                        have f3 := Rw.free HEC.out 3
                        have d3 := Rw.cell HEC.out (j := 3) rfl
                        obtain ⟨p1, p2⟩ := put_new HKC.out HG.out HEC.out 3 (.string po)
                        have HP1 := Lib.hid p1
                        have HP2 := Lib.hid p2
                        have HPS : Hid (p.size ≤ 1048576) := Lib.hid (by rw [← size_data, HPD.out, List.length_drop, size_data]; have := HRS.out; omega)
                        clear p1 p2 hpo hpd
                        go_wp2_with fail
                        go_meet
                        exact ⟨p, po, rfl, HP1, HP2, HRP, HPS⟩
                      · rw [decide_eq_false h42] at hQ21
                        subst hQ21
                        have HPD0 := Lib.hid (prt_digs H58.out h42)
                        clear h42
                        go_wp2_with fail
                        go_loop [5] (fun i => ∃ q : Nat, 1 ≤ q ∧ q ≤ r.size ∧ i = .int .i64 q ∧ Hid (((r.data.toList.drop 1).take (q - 1)).all (fun c => isDig c.toNat) = true)) (fun i => r.size - (intOf i).toNat)
                        case atStart => exact ⟨1, Nat.le_refl _, HRP0.out, rfl, Lib.hid rfl⟩
                        case round =>
                          obtain ⟨q, hq1, hq, rfl, HN⟩ := hrel
                          have hqz : (q : Int) ≤ 1048576 := by have := HRS.out; omega
                          have hout : ((r.data.toList.drop 1).take (q - 1)).all (fun c => isDig c.toNat) = true → (∀ h : q < r.size, isDig r[q].toNat = false) → digN (r.data.toList.drop 1) = q - 1 := by
                            intro ha hb
                            refine tw_stop ha (by rw [List.length_drop, size_data]; omega) (fun c hc => ?_)
                            rw [List.getElem?_drop, show 1 + (q - 1) = q from by omega] at hc
                            by_cases hl : q < r.size
                            · rw [Lib.data_getElem? r q hl] at hc
                              injection hc with hc
                              rw [← hc]
                              exact hb hl
                            · rw [List.getElem?_eq_none (by rw [size_data]; omega)] at hc
                              cases hc
                          have HOUT := Lib.hid hout
                          clear hout
                          by_cases hlt : q < r.size
                          · have HDG := Lib.hid (ref_digit_byte r[q] wC)
                            cases hdg : isDig r[q].toNat
                            · rw [hdg] at HDG
                              have HDN := Lib.hid (HOUT.out HN.out (fun _ => hdg))
                              clear hdg HOUT HN
                              go_wp2_with fail
                              refine HDG.out.mono ?_
                              rintro e we ⟨rfl, rfl⟩
                              have hq1i : (1 : Int) ≤ (q : Int) := by omega
                              by_cases hqa : q = 1
                              · have qa : ((q : Int) == 1) = true := by rw [beq_iff_eq]; omega
                                have HRes : Hid (R = expZ) := Lib.hid (by rw [HR2.out]; unfold behS; rw [HPD0.out, if_pos (.inl (by rw [HDN.out]; omega))])
                                clear hqa
                                have hzr := rw_kept HZ0.out HKC.out (fun x => x)
                                have z0 := Rw.cell hzr (j := 0) rfl
                                have z1 := Rw.cell hzr (j := 1) rfl
                                have z2 := Rw.cell hzr (j := 2) rfl
                                have z3 := Rw.cell hzr (j := 3) rfl
                                have z4 := Rw.cell hzr (j := 4) rfl
                                have y0 := Rw.free hzr 0
                                have y1 := Rw.free hzr 1
                                have y2 := Rw.free hzr 2
                                have y3 := Rw.free hzr 3
                                have y4 := Rw.free hzr 4
                                clear hzr
                                go_wp2_with fail
                                obtain ⟨E1, E2⟩ := exp9_end HW0.out HKC.out 0 ⟨#[]⟩ ⟨#[]⟩ ⟨#[]⟩ ⟨#[]⟩
                                refine bodyPost_ret (v := expV ⟨0, [], [], [], []⟩) ?_ rfl ⟨by rw [HRes.out] <;> rfl, E2⟩
                                exact results_row1 rfl _ _ w.heap.size 0 27 [.int .i64 0, .string ⟨#[]⟩, .string ⟨#[]⟩, .string ⟨#[]⟩, .string ⟨#[]⟩] _ rfl E1 Tryz.underlying27 rfl Tryz.sizeExp9
                              · have qa : ((q : Int) == 1) = false := by rw [beq_eq_false_iff_ne]; omega
                                by_cases hqb : 6 < q
                                · have qb : (6 : Int) < (q : Int) := by omega
                                  have HRes : Hid (R = expZ) := Lib.hid (by rw [HR2.out]; unfold behS; rw [HPD0.out, if_pos (.inr (by rw [HDN.out]; omega))])
                                  clear hqa hqb
                                  have hzr := rw_kept HZ0.out HKC.out (fun x => x)
                                  have z0 := Rw.cell hzr (j := 0) rfl
                                  have z1 := Rw.cell hzr (j := 1) rfl
                                  have z2 := Rw.cell hzr (j := 2) rfl
                                  have z3 := Rw.cell hzr (j := 3) rfl
                                  have z4 := Rw.cell hzr (j := 4) rfl
                                  have y0 := Rw.free hzr 0
                                  have y1 := Rw.free hzr 1
                                  have y2 := Rw.free hzr 2
                                  have y3 := Rw.free hzr 3
                                  have y4 := Rw.free hzr 4
                                  clear hzr
                                  go_wp2_with fail
                                  obtain ⟨E1, E2⟩ := exp9_end HW0.out HKC.out 0 ⟨#[]⟩ ⟨#[]⟩ ⟨#[]⟩ ⟨#[]⟩
                                  refine bodyPost_ret (v := expV ⟨0, [], [], [], []⟩) ?_ rfl ⟨by rw [HRes.out] <;> rfl, E2⟩
                                  exact results_row1 rfl _ _ w.heap.size 0 27 [.int .i64 0, .string ⟨#[]⟩, .string ⟨#[]⟩, .string ⟨#[]⟩, .string ⟨#[]⟩] _ rfl E1 Tryz.underlying27 rfl Tryz.sizeExp9
                                · have qb : ¬ (6 : Int) < (q : Int) := by omega
                                  have HPN : Hid (prtN r.data.toList = some q) := Lib.hid (by rw [HPD0.out, if_neg (by rw [HDN.out]; omega), HDN.out]; congr 1; omega)
                                  have hmr : q ≤ r.size := hq
                                  have hmri : (q : Int) ≤ (r.size : Int) := by omega
                                  clear hqa hqb
                                  obtain ⟨po, hpo⟩ : ∃ po : ByteArray, po = r.extract 1 q := ⟨_, rfl⟩
                                  have hpo' : r.extract 1 q = po := hpo.symm
                                  have HPO : Hid (po.data.toList = (r.data.toList.take q).drop 1) := Lib.hid (by rw [hpo]; exact cut_mid _ _ _)
                                  obtain ⟨p, hpd⟩ : ∃ p : ByteArray, p = r.extract q r.size := ⟨_, rfl⟩
                                  have hpd' : r.extract q r.size = p := hpd.symm
                                  have HPD : Hid (p.data.toList = r.data.toList.drop q) := Lib.hid (by rw [hpd]; exact cut_tail hmr)
                                  have HRP : Hid (R = if spathB p.data.toList = true then ⟨4, sc.data.toList, ho.data.toList, po.data.toList, p.data.toList⟩ else expZ) := Lib.hid (by
                                    rw [HR2.out]
                                    unfold behS
                                    rw [HPN.out, HHO.out, HPO.out, HPD.out])
                                  have f3 := Rw.free HEC.out 3
                                  have d3 := Rw.cell HEC.out (j := 3) rfl
                                  obtain ⟨p1, p2⟩ := put_new HKC.out HG.out HEC.out 3 (.string po)
                                  have HP1 := Lib.hid p1
                                  have HP2 := Lib.hid p2
                                  have HPS : Hid (p.size ≤ 1048576) := Lib.hid (by rw [← size_data, HPD.out, List.length_drop, size_data]; have := HRS.out; omega)
                                  clear p1 p2 hpo hpd
                                  go_wp2_with fail
                                  go_meet
                                  exact ⟨p, po, rfl, HP1, HP2, HRP, HPS⟩
                            · rw [hdg] at HDG
                              have HF : Hid (((r.data.toList.drop 1).take (q + 1 - 1)).all (fun c => isDig c.toNat) = true) := Lib.hid (by
                                rw [show q + 1 - 1 = (q - 1) + 1 from by omega, take_succ_of (x := r[q]) (by rw [List.getElem?_drop, show 1 + (q - 1) = q from by omega, Lib.data_getElem? r q hlt]), List.all_append, HN.out, List.all_cons, hdg]
                                rfl)
                              clear hdg HOUT HN
                              go_wp2_with fail
                              refine HDG.out.mono ?_
                              rintro e we ⟨rfl, rfl⟩
                              go_wp2_with fail
                              go_round
                              case rel => exact ⟨q + 1, by omega, by omega, by go_num, HF⟩
                              case measure => simp [intOf]; omega
                          · have HDN := Lib.hid (HOUT.out HN.out (fun h => absurd h hlt))
                            clear HOUT HN
                            have hq1i : (1 : Int) ≤ (q : Int) := by omega
                            by_cases hqa : q = 1
                            · have qa : ((q : Int) == 1) = true := by rw [beq_iff_eq]; omega
                              have HRes : Hid (R = expZ) := Lib.hid (by rw [HR2.out]; unfold behS; rw [HPD0.out, if_pos (.inl (by rw [HDN.out]; omega))])
                              clear hqa
                              have hzr := rw_kept HZ0.out HKC.out (fun x => x)
                              have z0 := Rw.cell hzr (j := 0) rfl
                              have z1 := Rw.cell hzr (j := 1) rfl
                              have z2 := Rw.cell hzr (j := 2) rfl
                              have z3 := Rw.cell hzr (j := 3) rfl
                              have z4 := Rw.cell hzr (j := 4) rfl
                              have y0 := Rw.free hzr 0
                              have y1 := Rw.free hzr 1
                              have y2 := Rw.free hzr 2
                              have y3 := Rw.free hzr 3
                              have y4 := Rw.free hzr 4
                              clear hzr
                              go_wp2_with fail
                              obtain ⟨E1, E2⟩ := exp9_end HW0.out HKC.out 0 ⟨#[]⟩ ⟨#[]⟩ ⟨#[]⟩ ⟨#[]⟩
                              refine bodyPost_ret (v := expV ⟨0, [], [], [], []⟩) ?_ rfl ⟨by rw [HRes.out] <;> rfl, E2⟩
                              exact results_row1 rfl _ _ w.heap.size 0 27 [.int .i64 0, .string ⟨#[]⟩, .string ⟨#[]⟩, .string ⟨#[]⟩, .string ⟨#[]⟩] _ rfl E1 Tryz.underlying27 rfl Tryz.sizeExp9
                            · have qa : ((q : Int) == 1) = false := by rw [beq_eq_false_iff_ne]; omega
                              by_cases hqb : 6 < q
                              · have qb : (6 : Int) < (q : Int) := by omega
                                have HRes : Hid (R = expZ) := Lib.hid (by rw [HR2.out]; unfold behS; rw [HPD0.out, if_pos (.inr (by rw [HDN.out]; omega))])
                                clear hqa hqb
                                have hzr := rw_kept HZ0.out HKC.out (fun x => x)
                                have z0 := Rw.cell hzr (j := 0) rfl
                                have z1 := Rw.cell hzr (j := 1) rfl
                                have z2 := Rw.cell hzr (j := 2) rfl
                                have z3 := Rw.cell hzr (j := 3) rfl
                                have z4 := Rw.cell hzr (j := 4) rfl
                                have y0 := Rw.free hzr 0
                                have y1 := Rw.free hzr 1
                                have y2 := Rw.free hzr 2
                                have y3 := Rw.free hzr 3
                                have y4 := Rw.free hzr 4
                                clear hzr
                                go_wp2_with fail
                                obtain ⟨E1, E2⟩ := exp9_end HW0.out HKC.out 0 ⟨#[]⟩ ⟨#[]⟩ ⟨#[]⟩ ⟨#[]⟩
                                refine bodyPost_ret (v := expV ⟨0, [], [], [], []⟩) ?_ rfl ⟨by rw [HRes.out] <;> rfl, E2⟩
                                exact results_row1 rfl _ _ w.heap.size 0 27 [.int .i64 0, .string ⟨#[]⟩, .string ⟨#[]⟩, .string ⟨#[]⟩, .string ⟨#[]⟩] _ rfl E1 Tryz.underlying27 rfl Tryz.sizeExp9
                              · have qb : ¬ (6 : Int) < (q : Int) := by omega
                                have HPN : Hid (prtN r.data.toList = some q) := Lib.hid (by rw [HPD0.out, if_neg (by rw [HDN.out]; omega), HDN.out]; congr 1; omega)
                                have hmr : q ≤ r.size := hq
                                have hmri : (q : Int) ≤ (r.size : Int) := by omega
                                clear hqa hqb
                                obtain ⟨po, hpo⟩ : ∃ po : ByteArray, po = r.extract 1 q := ⟨_, rfl⟩
                                have hpo' : r.extract 1 q = po := hpo.symm
                                have HPO : Hid (po.data.toList = (r.data.toList.take q).drop 1) := Lib.hid (by rw [hpo]; exact cut_mid _ _ _)
                                obtain ⟨p, hpd⟩ : ∃ p : ByteArray, p = r.extract q r.size := ⟨_, rfl⟩
                                have hpd' : r.extract q r.size = p := hpd.symm
                                have HPD : Hid (p.data.toList = r.data.toList.drop q) := Lib.hid (by rw [hpd]; exact cut_tail hmr)
                                have HRP : Hid (R = if spathB p.data.toList = true then ⟨4, sc.data.toList, ho.data.toList, po.data.toList, p.data.toList⟩ else expZ) := Lib.hid (by
                                  rw [HR2.out]
                                  unfold behS
                                  rw [HPN.out, HHO.out, HPO.out, HPD.out])
                                have f3 := Rw.free HEC.out 3
                                have d3 := Rw.cell HEC.out (j := 3) rfl
                                obtain ⟨p1, p2⟩ := put_new HKC.out HG.out HEC.out 3 (.string po)
                                have HP1 := Lib.hid p1
                                have HP2 := Lib.hid p2
                                have HPS : Hid (p.size ≤ 1048576) := Lib.hid (by rw [← size_data, HPD.out, List.length_drop, size_data]; have := HRS.out; omega)
                                clear p1 p2 hpo hpd
                                go_wp2_with fail
                                go_meet
                                exact ⟨p, po, rfl, HP1, HP2, HRP, HPS⟩
                  · rw [decide_eq_false h58] at hQ19
                    subst hQ19
                    have HPN := Lib.hid (prt_no h58)
                    clear h58
                    have HRP : Hid (R = if spathB r.data.toList = true then ⟨4, sc.data.toList, ho.data.toList, (⟨#[]⟩ : ByteArray).data.toList, r.data.toList⟩ else expZ) := Lib.hid (by
                      rw [HR2.out]
                      unfold behS
                      rw [HPN.out, HHO.out]
                      rfl)
                    go_wp2_with fail
                    go_meet
                    exact ⟨r, ⟨#[]⟩, rfl, HEC, HKC, HRP, HRS⟩

theorem txts_eq {a b : ByteArray} (h : a.data.toList = b.data.toList) : (a.toList == b.toList) = true := by rw [ByteArray.toList_eq, ByteArray.toList_eq, h, beq_iff_eq]

theorem txts_ne {a b : ByteArray} (h : a.data.toList ≠ b.data.toList) : (a.toList == b.toList) = false := by rw [ByteArray.toList_eq, ByteArray.toList_eq, beq_eq_false_iff_ne]; exact h

theorem has_cons (x : ByteArray) (zs : List ByteArray) (S : ByteArray) : hasS (x :: zs) S = (decide (S.data.toList = x.data.toList) || hasS zs S) := by
  rw [Bool.eq_iff_iff, Bool.or_eq_true, hasS_iff, hasS_iff, decide_eq_true_eq, List.mem_cons]
  have e : S = x ↔ S.data.toList = x.data.toList := ⟨fun h => by rw [h], fun h => toList_inj.1 (by rw [ByteArray.toList_eq, ByteArray.toList_eq, h])⟩
  rw [e]

theorem a_ways (a : List UInt8) : (a = httpL ∧ a ≠ wsL ∧ a ≠ wssL) ∨ (a ≠ httpL ∧ a = wsL ∧ a ≠ wssL) ∨ (a ≠ httpL ∧ a ≠ wsL ∧ a = wssL) ∨ (a ≠ httpL ∧ a ≠ wsL ∧ a ≠ wssL) := by
  by_cases h1 : a = httpL
  · subst h1; exact .inl ⟨rfl, by decide, by decide⟩
  · by_cases h2 : a = wsL
    · subst h2; exact .inr (.inl ⟨by decide, rfl, by decide⟩)
    · by_cases h3 : a = wssL
      · subst h3; exact .inr (.inr (.inl ⟨by decide, by decide, rfl⟩))
      · exact .inr (.inr (.inr ⟨h1, h2, h3⟩))

theorem b_ways (b : List UInt8) : (b = httpsL ∧ b ≠ wssL ∧ b ≠ httpL) ∨ (b ≠ httpsL ∧ b = wssL ∧ b ≠ httpL) ∨ (b ≠ httpsL ∧ b ≠ wssL ∧ b = httpL) ∨ (b ≠ httpsL ∧ b ≠ wssL ∧ b ≠ httpL) := by
  by_cases h1 : b = httpsL
  · subst h1; exact .inl ⟨rfl, by decide, by decide⟩
  · by_cases h2 : b = wssL
    · subst h2; exact .inr (.inl ⟨by decide, rfl, by decide⟩)
    · by_cases h3 : b = httpL
      · subst h3; exact .inr (.inr (.inl ⟨by decide, by decide, rfl⟩))
      · exact .inr (.inr (.inr ⟨h1, h2, h3⟩))

set_option maxHeartbeats 4000000 in
theorem sma_any (A B : ByteArray) (w : World) :
    Calls Tryz.prog 15 #[.string A, .string B] w fun e w' => e = .returned (.bool (smaB A.data.toList B.data.toList)) ∧ Below w.heap.size w w' := by
  obtain ⟨R, hR⟩ : ∃ R, R = smaB A.data.toList B.data.toList := ⟨_, rfl⟩
  rw [← hR]
  by_cases hab : A.data.toList = B.data.toList
  · have HR : Hid (R = true) := Lib.hid (by rw [hR]; unfold smaB; rw [decide_eq_true hab]; rfl)
    have qe := txts_eq hab
    clear hab hR
    go_enter Tryz.func15, Tryz.ntmps15
    go_wp2_with fail
    go_ret
    exact ⟨by rw [HR.out] <;> rfl, Below.refl _ _⟩
  have qe := txts_ne hab
  rcases a_ways A.data.toList with ⟨h1, h2, h3⟩ | ⟨h1, h2, h3⟩ | ⟨h1, h2, h3⟩ | ⟨h1, h2, h3⟩
  · have q1 : (A.toList == [104, 116, 116, 112]) = true := lit_yes h1
    have q2 : (A.toList == [119, 115]) = false := lit_no h2
    have q3 : (A.toList == [119, 115, 115]) = false := lit_no h3
    rcases b_ways B.data.toList with ⟨g1, g2, g3⟩ | ⟨g1, g2, g3⟩ | ⟨g1, g2, g3⟩ | ⟨g1, g2, g3⟩
    · have q4 : (B.toList == [104, 116, 116, 112, 115]) = true := lit_yes g1
      have q5 : (B.toList == [119, 115, 115]) = false := lit_no g2
      have q6 : (B.toList == [104, 116, 116, 112]) = false := lit_no g3
      have HR : Hid (R = true) := Lib.hid (by rw [hR]; unfold smaB; rw [decide_eq_false hab, decide_eq_true h1, decide_eq_false h2, decide_eq_false h3, decide_eq_true g1, decide_eq_false g2, decide_eq_false g3]; rfl)
      clear hab hR h1 h2 h3 g1 g2 g3
      go_enter Tryz.func15, Tryz.ntmps15
      go_wp2_with fail
      go_ret
      exact ⟨by rw [HR.out] <;> first | rfl | exact ret_bool qe | exact ret_bool q1 | exact ret_bool q2 | exact ret_bool q3 | exact ret_bool q4 | exact ret_bool q5 | exact ret_bool q6, Below.refl _ _⟩
    · have q4 : (B.toList == [104, 116, 116, 112, 115]) = false := lit_no g1
      have q5 : (B.toList == [119, 115, 115]) = true := lit_yes g2
      have q6 : (B.toList == [104, 116, 116, 112]) = false := lit_no g3
      have HR : Hid (R = false) := Lib.hid (by rw [hR]; unfold smaB; rw [decide_eq_false hab, decide_eq_true h1, decide_eq_false h2, decide_eq_false h3, decide_eq_false g1, decide_eq_true g2, decide_eq_false g3]; rfl)
      clear hab hR h1 h2 h3 g1 g2 g3
      go_enter Tryz.func15, Tryz.ntmps15
      go_wp2_with fail
      go_ret
      exact ⟨by rw [HR.out] <;> first | rfl | exact ret_bool qe | exact ret_bool q1 | exact ret_bool q2 | exact ret_bool q3 | exact ret_bool q4 | exact ret_bool q5 | exact ret_bool q6, Below.refl _ _⟩
    · have q4 : (B.toList == [104, 116, 116, 112, 115]) = false := lit_no g1
      have q5 : (B.toList == [119, 115, 115]) = false := lit_no g2
      have q6 : (B.toList == [104, 116, 116, 112]) = true := lit_yes g3
      have HR : Hid (R = false) := Lib.hid (by rw [hR]; unfold smaB; rw [decide_eq_false hab, decide_eq_true h1, decide_eq_false h2, decide_eq_false h3, decide_eq_false g1, decide_eq_false g2, decide_eq_true g3]; rfl)
      clear hab hR h1 h2 h3 g1 g2 g3
      go_enter Tryz.func15, Tryz.ntmps15
      go_wp2_with fail
      go_ret
      exact ⟨by rw [HR.out] <;> first | rfl | exact ret_bool qe | exact ret_bool q1 | exact ret_bool q2 | exact ret_bool q3 | exact ret_bool q4 | exact ret_bool q5 | exact ret_bool q6, Below.refl _ _⟩
    · have q4 : (B.toList == [104, 116, 116, 112, 115]) = false := lit_no g1
      have q5 : (B.toList == [119, 115, 115]) = false := lit_no g2
      have q6 : (B.toList == [104, 116, 116, 112]) = false := lit_no g3
      have HR : Hid (R = false) := Lib.hid (by rw [hR]; unfold smaB; rw [decide_eq_false hab, decide_eq_true h1, decide_eq_false h2, decide_eq_false h3, decide_eq_false g1, decide_eq_false g2, decide_eq_false g3]; rfl)
      clear hab hR h1 h2 h3 g1 g2 g3
      go_enter Tryz.func15, Tryz.ntmps15
      go_wp2_with fail
      go_ret
      exact ⟨by rw [HR.out] <;> first | rfl | exact ret_bool qe | exact ret_bool q1 | exact ret_bool q2 | exact ret_bool q3 | exact ret_bool q4 | exact ret_bool q5 | exact ret_bool q6, Below.refl _ _⟩
  · have q1 : (A.toList == [104, 116, 116, 112]) = false := lit_no h1
    have q2 : (A.toList == [119, 115]) = true := lit_yes h2
    have q3 : (A.toList == [119, 115, 115]) = false := lit_no h3
    have HRV : Hid (hasS [⟨#[119, 115, 115]⟩, ⟨#[104, 116, 116, 112]⟩, ⟨#[104, 116, 116, 112, 115]⟩] B = R) := Lib.hid (by
      rw [hR]
      unfold smaB
      rw [decide_eq_false hab, decide_eq_false h1, decide_eq_true h2, decide_eq_false h3, has_cons, has_cons, has_cons, hasS_nil]
      simp only [Bool.or_false, Bool.false_or, Bool.true_and, Bool.false_and, Bool.or_assoc]
      rfl)
    have HA : Hid (∀ v W, SliceAt W v ([⟨#[119, 115, 115]⟩, ⟨#[104, 116, 116, 112]⟩, ⟨#[104, 116, 116, 112, 115]⟩].map strV) → Calls Tryz.prog 47 #[.string B, v] W fun e w' => e = .returned (.bool R) ∧ w' = W) := Lib.hid (fun v W h => by rw [← HRV.out]; exact any_any v _ B W (by decide) h)
    have HS0 : Hid (SliceAt (w.alloc (.cells #[.string ⟨#[119, 115, 115]⟩, .string ⟨#[104, 116, 116, 112]⟩, .string ⟨#[104, 116, 116, 112, 115]⟩] 9)) (.slice (some ⟨w.heap.size, 0, none⟩) 3 3) ([⟨#[119, 115, 115]⟩, ⟨#[104, 116, 116, 112]⟩, ⟨#[104, 116, 116, 112, 115]⟩].map strV)) := Lib.hid (SliceAt.lit w _ _ _ _ rfl)
    clear hab hR h1 h2 h3
    go_enter Tryz.func15, Tryz.ntmps15
    go_wp2_with fail
    refine (HA.out _ _ HS0.out).mono ?_
    rintro e w1 ⟨rfl, rfl⟩
    go_wp2_with fail
    go_ret
    exact ⟨rfl, below_more (Below.refl _ _) _⟩
  · have q1 : (A.toList == [104, 116, 116, 112]) = false := lit_no h1
    have q2 : (A.toList == [119, 115]) = false := lit_no h2
    have q3 : (A.toList == [119, 115, 115]) = true := lit_yes h3
    rcases b_ways B.data.toList with ⟨g1, g2, g3⟩ | ⟨g1, g2, g3⟩ | ⟨g1, g2, g3⟩ | ⟨g1, g2, g3⟩
    · have q4 : (B.toList == [104, 116, 116, 112, 115]) = true := lit_yes g1
      have q5 : (B.toList == [119, 115, 115]) = false := lit_no g2
      have q6 : (B.toList == [104, 116, 116, 112]) = false := lit_no g3
      have HR : Hid (R = true) := Lib.hid (by rw [hR]; unfold smaB; rw [decide_eq_false hab, decide_eq_false h1, decide_eq_false h2, decide_eq_true h3, decide_eq_true g1, decide_eq_false g2, decide_eq_false g3]; rfl)
      clear hab hR h1 h2 h3 g1 g2 g3
      go_enter Tryz.func15, Tryz.ntmps15
      go_wp2_with fail
      go_ret
      exact ⟨by rw [HR.out] <;> first | rfl | exact ret_bool qe | exact ret_bool q1 | exact ret_bool q2 | exact ret_bool q3 | exact ret_bool q4 | exact ret_bool q5 | exact ret_bool q6, Below.refl _ _⟩
    · have q4 : (B.toList == [104, 116, 116, 112, 115]) = false := lit_no g1
      have q5 : (B.toList == [119, 115, 115]) = true := lit_yes g2
      have q6 : (B.toList == [104, 116, 116, 112]) = false := lit_no g3
      have HR : Hid (R = false) := Lib.hid (by rw [hR]; unfold smaB; rw [decide_eq_false hab, decide_eq_false h1, decide_eq_false h2, decide_eq_true h3, decide_eq_false g1, decide_eq_true g2, decide_eq_false g3]; rfl)
      clear hab hR h1 h2 h3 g1 g2 g3
      go_enter Tryz.func15, Tryz.ntmps15
      go_wp2_with fail
      go_ret
      exact ⟨by rw [HR.out] <;> first | rfl | exact ret_bool qe | exact ret_bool q1 | exact ret_bool q2 | exact ret_bool q3 | exact ret_bool q4 | exact ret_bool q5 | exact ret_bool q6, Below.refl _ _⟩
    · have q4 : (B.toList == [104, 116, 116, 112, 115]) = false := lit_no g1
      have q5 : (B.toList == [119, 115, 115]) = false := lit_no g2
      have q6 : (B.toList == [104, 116, 116, 112]) = true := lit_yes g3
      have HR : Hid (R = false) := Lib.hid (by rw [hR]; unfold smaB; rw [decide_eq_false hab, decide_eq_false h1, decide_eq_false h2, decide_eq_true h3, decide_eq_false g1, decide_eq_false g2, decide_eq_true g3]; rfl)
      clear hab hR h1 h2 h3 g1 g2 g3
      go_enter Tryz.func15, Tryz.ntmps15
      go_wp2_with fail
      go_ret
      exact ⟨by rw [HR.out] <;> first | rfl | exact ret_bool qe | exact ret_bool q1 | exact ret_bool q2 | exact ret_bool q3 | exact ret_bool q4 | exact ret_bool q5 | exact ret_bool q6, Below.refl _ _⟩
    · have q4 : (B.toList == [104, 116, 116, 112, 115]) = false := lit_no g1
      have q5 : (B.toList == [119, 115, 115]) = false := lit_no g2
      have q6 : (B.toList == [104, 116, 116, 112]) = false := lit_no g3
      have HR : Hid (R = false) := Lib.hid (by rw [hR]; unfold smaB; rw [decide_eq_false hab, decide_eq_false h1, decide_eq_false h2, decide_eq_true h3, decide_eq_false g1, decide_eq_false g2, decide_eq_false g3]; rfl)
      clear hab hR h1 h2 h3 g1 g2 g3
      go_enter Tryz.func15, Tryz.ntmps15
      go_wp2_with fail
      go_ret
      exact ⟨by rw [HR.out] <;> first | rfl | exact ret_bool qe | exact ret_bool q1 | exact ret_bool q2 | exact ret_bool q3 | exact ret_bool q4 | exact ret_bool q5 | exact ret_bool q6, Below.refl _ _⟩
  · have q1 : (A.toList == [104, 116, 116, 112]) = false := lit_no h1
    have q2 : (A.toList == [119, 115]) = false := lit_no h2
    have q3 : (A.toList == [119, 115, 115]) = false := lit_no h3
    have HR : Hid (R = false) := Lib.hid (by rw [hR]; unfold smaB; rw [decide_eq_false hab, decide_eq_false h1, decide_eq_false h2, decide_eq_false h3]; rfl)
    clear hab hR h1 h2 h3
    go_enter Tryz.func15, Tryz.ntmps15
    go_wp2_with fail
    go_ret
    exact ⟨by rw [HR.out] <;> rfl, Below.refl _ _⟩

set_option maxHeartbeats 4000000 in
theorem rsma_any (A B : ByteArray) (w : World) :
    Calls Tryz.prog 16 #[.string A, .string B] w fun e w' => e = .returned (.bool (smaB A.data.toList B.data.toList)) ∧ w' = w := by
  obtain ⟨R, hR⟩ : ∃ R, R = smaB A.data.toList B.data.toList := ⟨_, rfl⟩
  rw [← hR]
  by_cases hab : A.data.toList = B.data.toList
  · have HR : Hid (R = true) := Lib.hid (by rw [hR]; unfold smaB; rw [decide_eq_true hab]; rfl)
    have qe := txts_eq hab
    clear hab hR
    go_enter Tryz.func16, Tryz.ntmps16
    go_wp2_with fail
    go_ret
    exact ⟨by rw [HR.out] <;> rfl, rfl⟩
  have qe := txts_ne hab
  rcases a_ways A.data.toList with ⟨h1, h2, h3⟩ | ⟨h1, h2, h3⟩ | ⟨h1, h2, h3⟩ | ⟨h1, h2, h3⟩
  · have q1 : (A.toList == [104, 116, 116, 112]) = true := lit_yes h1
    have q2 : (A.toList == [119, 115]) = false := lit_no h2
    have q3 : (A.toList == [119, 115, 115]) = false := lit_no h3
    rcases b_ways B.data.toList with ⟨g1, g2, g3⟩ | ⟨g1, g2, g3⟩ | ⟨g1, g2, g3⟩ | ⟨g1, g2, g3⟩
    · have q4 : (B.toList == [104, 116, 116, 112, 115]) = true := lit_yes g1
      have q5 : (B.toList == [119, 115, 115]) = false := lit_no g2
      have q6 : (B.toList == [104, 116, 116, 112]) = false := lit_no g3
      have HR : Hid (R = true) := Lib.hid (by rw [hR]; unfold smaB; rw [decide_eq_false hab, decide_eq_true h1, decide_eq_false h2, decide_eq_false h3, decide_eq_true g1, decide_eq_false g2, decide_eq_false g3]; rfl)
      clear hab hR h1 h2 h3 g1 g2 g3
      go_enter Tryz.func16, Tryz.ntmps16
      go_wp2_with fail
      go_ret
      exact ⟨by rw [HR.out] <;> first | rfl | exact ret_bool qe | exact ret_bool q1 | exact ret_bool q2 | exact ret_bool q3 | exact ret_bool q4 | exact ret_bool q5 | exact ret_bool q6, rfl⟩
    · have q4 : (B.toList == [104, 116, 116, 112, 115]) = false := lit_no g1
      have q5 : (B.toList == [119, 115, 115]) = true := lit_yes g2
      have q6 : (B.toList == [104, 116, 116, 112]) = false := lit_no g3
      have HR : Hid (R = false) := Lib.hid (by rw [hR]; unfold smaB; rw [decide_eq_false hab, decide_eq_true h1, decide_eq_false h2, decide_eq_false h3, decide_eq_false g1, decide_eq_true g2, decide_eq_false g3]; rfl)
      clear hab hR h1 h2 h3 g1 g2 g3
      go_enter Tryz.func16, Tryz.ntmps16
      go_wp2_with fail
      go_ret
      exact ⟨by rw [HR.out] <;> first | rfl | exact ret_bool qe | exact ret_bool q1 | exact ret_bool q2 | exact ret_bool q3 | exact ret_bool q4 | exact ret_bool q5 | exact ret_bool q6, rfl⟩
    · have q4 : (B.toList == [104, 116, 116, 112, 115]) = false := lit_no g1
      have q5 : (B.toList == [119, 115, 115]) = false := lit_no g2
      have q6 : (B.toList == [104, 116, 116, 112]) = true := lit_yes g3
      have HR : Hid (R = false) := Lib.hid (by rw [hR]; unfold smaB; rw [decide_eq_false hab, decide_eq_true h1, decide_eq_false h2, decide_eq_false h3, decide_eq_false g1, decide_eq_false g2, decide_eq_true g3]; rfl)
      clear hab hR h1 h2 h3 g1 g2 g3
      go_enter Tryz.func16, Tryz.ntmps16
      go_wp2_with fail
      go_ret
      exact ⟨by rw [HR.out] <;> first | rfl | exact ret_bool qe | exact ret_bool q1 | exact ret_bool q2 | exact ret_bool q3 | exact ret_bool q4 | exact ret_bool q5 | exact ret_bool q6, rfl⟩
    · have q4 : (B.toList == [104, 116, 116, 112, 115]) = false := lit_no g1
      have q5 : (B.toList == [119, 115, 115]) = false := lit_no g2
      have q6 : (B.toList == [104, 116, 116, 112]) = false := lit_no g3
      have HR : Hid (R = false) := Lib.hid (by rw [hR]; unfold smaB; rw [decide_eq_false hab, decide_eq_true h1, decide_eq_false h2, decide_eq_false h3, decide_eq_false g1, decide_eq_false g2, decide_eq_false g3]; rfl)
      clear hab hR h1 h2 h3 g1 g2 g3
      go_enter Tryz.func16, Tryz.ntmps16
      go_wp2_with fail
      go_ret
      exact ⟨by rw [HR.out] <;> first | rfl | exact ret_bool qe | exact ret_bool q1 | exact ret_bool q2 | exact ret_bool q3 | exact ret_bool q4 | exact ret_bool q5 | exact ret_bool q6, rfl⟩
  · have q1 : (A.toList == [104, 116, 116, 112]) = false := lit_no h1
    have q2 : (A.toList == [119, 115]) = true := lit_yes h2
    have q3 : (A.toList == [119, 115, 115]) = false := lit_no h3
    rcases b_ways B.data.toList with ⟨g1, g2, g3⟩ | ⟨g1, g2, g3⟩ | ⟨g1, g2, g3⟩ | ⟨g1, g2, g3⟩
    · have q4 : (B.toList == [104, 116, 116, 112, 115]) = true := lit_yes g1
      have q5 : (B.toList == [119, 115, 115]) = false := lit_no g2
      have q6 : (B.toList == [104, 116, 116, 112]) = false := lit_no g3
      have HR : Hid (R = true) := Lib.hid (by rw [hR]; unfold smaB; rw [decide_eq_false hab, decide_eq_false h1, decide_eq_true h2, decide_eq_false h3, decide_eq_true g1, decide_eq_false g2, decide_eq_false g3]; rfl)
      clear hab hR h1 h2 h3 g1 g2 g3
      go_enter Tryz.func16, Tryz.ntmps16
      go_wp2_with fail
      go_ret
      exact ⟨by rw [HR.out] <;> first | rfl | exact ret_bool qe | exact ret_bool q1 | exact ret_bool q2 | exact ret_bool q3 | exact ret_bool q4 | exact ret_bool q5 | exact ret_bool q6, rfl⟩
    · have q4 : (B.toList == [104, 116, 116, 112, 115]) = false := lit_no g1
      have q5 : (B.toList == [119, 115, 115]) = true := lit_yes g2
      have q6 : (B.toList == [104, 116, 116, 112]) = false := lit_no g3
      have HR : Hid (R = true) := Lib.hid (by rw [hR]; unfold smaB; rw [decide_eq_false hab, decide_eq_false h1, decide_eq_true h2, decide_eq_false h3, decide_eq_false g1, decide_eq_true g2, decide_eq_false g3]; rfl)
      clear hab hR h1 h2 h3 g1 g2 g3
      go_enter Tryz.func16, Tryz.ntmps16
      go_wp2_with fail
      go_ret
      exact ⟨by rw [HR.out] <;> first | rfl | exact ret_bool qe | exact ret_bool q1 | exact ret_bool q2 | exact ret_bool q3 | exact ret_bool q4 | exact ret_bool q5 | exact ret_bool q6, rfl⟩
    · have q4 : (B.toList == [104, 116, 116, 112, 115]) = false := lit_no g1
      have q5 : (B.toList == [119, 115, 115]) = false := lit_no g2
      have q6 : (B.toList == [104, 116, 116, 112]) = true := lit_yes g3
      have HR : Hid (R = true) := Lib.hid (by rw [hR]; unfold smaB; rw [decide_eq_false hab, decide_eq_false h1, decide_eq_true h2, decide_eq_false h3, decide_eq_false g1, decide_eq_false g2, decide_eq_true g3]; rfl)
      clear hab hR h1 h2 h3 g1 g2 g3
      go_enter Tryz.func16, Tryz.ntmps16
      go_wp2_with fail
      go_ret
      exact ⟨by rw [HR.out] <;> first | rfl | exact ret_bool qe | exact ret_bool q1 | exact ret_bool q2 | exact ret_bool q3 | exact ret_bool q4 | exact ret_bool q5 | exact ret_bool q6, rfl⟩
    · have q4 : (B.toList == [104, 116, 116, 112, 115]) = false := lit_no g1
      have q5 : (B.toList == [119, 115, 115]) = false := lit_no g2
      have q6 : (B.toList == [104, 116, 116, 112]) = false := lit_no g3
      have HR : Hid (R = false) := Lib.hid (by rw [hR]; unfold smaB; rw [decide_eq_false hab, decide_eq_false h1, decide_eq_true h2, decide_eq_false h3, decide_eq_false g1, decide_eq_false g2, decide_eq_false g3]; rfl)
      clear hab hR h1 h2 h3 g1 g2 g3
      go_enter Tryz.func16, Tryz.ntmps16
      go_wp2_with fail
      go_ret
      exact ⟨by rw [HR.out] <;> first | rfl | exact ret_bool qe | exact ret_bool q1 | exact ret_bool q2 | exact ret_bool q3 | exact ret_bool q4 | exact ret_bool q5 | exact ret_bool q6, rfl⟩
  · have q1 : (A.toList == [104, 116, 116, 112]) = false := lit_no h1
    have q2 : (A.toList == [119, 115]) = false := lit_no h2
    have q3 : (A.toList == [119, 115, 115]) = true := lit_yes h3
    rcases b_ways B.data.toList with ⟨g1, g2, g3⟩ | ⟨g1, g2, g3⟩ | ⟨g1, g2, g3⟩ | ⟨g1, g2, g3⟩
    · have q4 : (B.toList == [104, 116, 116, 112, 115]) = true := lit_yes g1
      have q5 : (B.toList == [119, 115, 115]) = false := lit_no g2
      have q6 : (B.toList == [104, 116, 116, 112]) = false := lit_no g3
      have HR : Hid (R = true) := Lib.hid (by rw [hR]; unfold smaB; rw [decide_eq_false hab, decide_eq_false h1, decide_eq_false h2, decide_eq_true h3, decide_eq_true g1, decide_eq_false g2, decide_eq_false g3]; rfl)
      clear hab hR h1 h2 h3 g1 g2 g3
      go_enter Tryz.func16, Tryz.ntmps16
      go_wp2_with fail
      go_ret
      exact ⟨by rw [HR.out] <;> first | rfl | exact ret_bool qe | exact ret_bool q1 | exact ret_bool q2 | exact ret_bool q3 | exact ret_bool q4 | exact ret_bool q5 | exact ret_bool q6, rfl⟩
    · have q4 : (B.toList == [104, 116, 116, 112, 115]) = false := lit_no g1
      have q5 : (B.toList == [119, 115, 115]) = true := lit_yes g2
      have q6 : (B.toList == [104, 116, 116, 112]) = false := lit_no g3
      have HR : Hid (R = false) := Lib.hid (by rw [hR]; unfold smaB; rw [decide_eq_false hab, decide_eq_false h1, decide_eq_false h2, decide_eq_true h3, decide_eq_false g1, decide_eq_true g2, decide_eq_false g3]; rfl)
      clear hab hR h1 h2 h3 g1 g2 g3
      go_enter Tryz.func16, Tryz.ntmps16
      go_wp2_with fail
      go_ret
      exact ⟨by rw [HR.out] <;> first | rfl | exact ret_bool qe | exact ret_bool q1 | exact ret_bool q2 | exact ret_bool q3 | exact ret_bool q4 | exact ret_bool q5 | exact ret_bool q6, rfl⟩
    · have q4 : (B.toList == [104, 116, 116, 112, 115]) = false := lit_no g1
      have q5 : (B.toList == [119, 115, 115]) = false := lit_no g2
      have q6 : (B.toList == [104, 116, 116, 112]) = true := lit_yes g3
      have HR : Hid (R = false) := Lib.hid (by rw [hR]; unfold smaB; rw [decide_eq_false hab, decide_eq_false h1, decide_eq_false h2, decide_eq_true h3, decide_eq_false g1, decide_eq_false g2, decide_eq_true g3]; rfl)
      clear hab hR h1 h2 h3 g1 g2 g3
      go_enter Tryz.func16, Tryz.ntmps16
      go_wp2_with fail
      go_ret
      exact ⟨by rw [HR.out] <;> first | rfl | exact ret_bool qe | exact ret_bool q1 | exact ret_bool q2 | exact ret_bool q3 | exact ret_bool q4 | exact ret_bool q5 | exact ret_bool q6, rfl⟩
    · have q4 : (B.toList == [104, 116, 116, 112, 115]) = false := lit_no g1
      have q5 : (B.toList == [119, 115, 115]) = false := lit_no g2
      have q6 : (B.toList == [104, 116, 116, 112]) = false := lit_no g3
      have HR : Hid (R = false) := Lib.hid (by rw [hR]; unfold smaB; rw [decide_eq_false hab, decide_eq_false h1, decide_eq_false h2, decide_eq_true h3, decide_eq_false g1, decide_eq_false g2, decide_eq_false g3]; rfl)
      clear hab hR h1 h2 h3 g1 g2 g3
      go_enter Tryz.func16, Tryz.ntmps16
      go_wp2_with fail
      go_ret
      exact ⟨by rw [HR.out] <;> first | rfl | exact ret_bool qe | exact ret_bool q1 | exact ret_bool q2 | exact ret_bool q3 | exact ret_bool q4 | exact ret_bool q5 | exact ret_bool q6, rfl⟩
  · have q1 : (A.toList == [104, 116, 116, 112]) = false := lit_no h1
    have q2 : (A.toList == [119, 115]) = false := lit_no h2
    have q3 : (A.toList == [119, 115, 115]) = false := lit_no h3
    have HR : Hid (R = false) := Lib.hid (by rw [hR]; unfold smaB; rw [decide_eq_false hab, decide_eq_false h1, decide_eq_false h2, decide_eq_false h3]; rfl)
    clear hab hR h1 h2 h3
    go_enter Tryz.func16, Tryz.ntmps16
    go_wp2_with fail
    go_ret
    exact ⟨by rw [HR.out] <;> rfl, rfl⟩

theorem pre_two (p : List UInt8) : Lib.hasPrefix p [42, 46] = decide (p.take 2 = [42, 46]) := take_pre _ _

set_option maxHeartbeats 4000000 in
theorem hma_any (P B : ByteArray) (hp : P.size ≤ 1048576) (hb : B.size ≤ 1048576) (w : World) (hT : Tab10 w) :
    Calls Tryz.prog 17 #[.string P, .string B] w fun e w' => e = .returned (.bool (hmaB P.data.toList B.data.toList)) ∧ Below w.heap.size w w' := by
  obtain ⟨R, hR⟩ : ∃ R, R = hmaB P.data.toList B.data.toList := ⟨_, rfl⟩
  rw [← hR]
  have HA := Lib.hid (haddress_any B (by omega) w hT)
  obtain ⟨x, hx⟩ : ∃ x : Int, x = ((optN (addressP B.data.toList) : Nat) : Int) := ⟨_, rfl⟩
  rw [← hx] at HA
  clear hx
  obtain ⟨D, hD⟩ : ∃ D, D = (addressP B.data.toList).isSome := ⟨_, rfl⟩
  have hDn : (addressP B.data.toList).isNone = !D := by rw [hD]; cases addressP B.data.toList <;> rfl
  rw [← hD] at HA
  clear hD
  by_cases h0 : B.size = 0
  · have y := emptyYes h0
    have HR : Hid (R = false) := Lib.hid (by rw [hR]; unfold hmaB; rw [if_pos (List.eq_nil_of_length_eq_zero (by rw [size_data]; exact h0))])
    clear h0 hR hDn
    go_enter Tryz.func17, Tryz.ntmps17
    go_wp2_with fail
    refine HA.out.mono ?_
    rintro e w1 ⟨rfl, hb1⟩
    have HB1 := Lib.hid hb1
    clear hb1
    go_wp2_with fail
    go_ret
    exact ⟨by rw [HR.out] <;> first | rfl , HB1.out⟩
  have y := emptyNo h0
  have hne := ne_of_size h0
  by_cases h42 : P.data.toList = [42]
  · have q := lit_yes h42
    have HR : Hid (R = true) := Lib.hid (by rw [hR]; unfold hmaB; rw [if_neg hne, if_pos h42])
    clear h0 hne h42 hR hDn
    go_enter Tryz.func17, Tryz.ntmps17
    go_wp2_with fail
    refine HA.out.mono ?_
    rintro e w1 ⟨rfl, hb1⟩
    have HB1 := Lib.hid hb1
    clear hb1
    go_wp2_with fail
    go_ret
    exact ⟨by rw [HR.out] <;> first | rfl , HB1.out⟩
  have q := lit_no h42
  have HP := Lib.hid (fun W => Tryz.strings_HasPrefix P ⟨#[42, 46]⟩ W)
  rw [show (⟨#[42, 46]⟩ : ByteArray).data.toList = [42, 46] from rfl, pre_two] at HP
  by_cases h2 : P.data.toList.take 2 = [42, 46]
  · have h2s : 2 ≤ P.size := by
      have h5 := congrArg List.length h2
      rw [List.length_take, size_data] at h5
      simp at h5
      omega
    have hex : (P.extract 1 P.size).data.toList = P.data.toList.drop 1 := cut_tail (by omega)
    have hexs : (P.extract 1 P.size).size = P.size - 1 := by rw [← size_data, hex, List.length_drop, size_data]
    obtain ⟨d, hd⟩ : ∃ d : ByteArray, d = P.extract 1 P.size := ⟨_, rfl⟩
    have hd' : P.extract 1 P.size = d := hd.symm
    rw [← hd] at hex hexs
    have h1i : (1 : Int) ≤ (P.size : Int) := by omega
    have hR2 : R = (!D && (decide (P.size - 1 < B.size) && d.data.toList.isSuffixOf B.data.toList)) := by
      rw [hR]
      unfold hmaB
      rw [if_neg hne, if_neg h42, if_pos h2, hDn, hex, size_data, size_data]
    rw [decide_eq_true h2] at HP
    have HS := Lib.hid (fun W => Tryz.strings_HasSuffix B d W (by omega))
    rw [show Lib.hasSuffix B.data.toList d.data.toList = d.data.toList.isSuffixOf B.data.toList from rfl] at HS
    obtain ⟨X, hX⟩ : ∃ X, X = d.data.toList.isSuffixOf B.data.toList := ⟨_, rfl⟩
    rw [← hX] at HS hR2
    clear hX hex hd h2 h42 hne h0 hR hDn
    cases D
    · by_cases hlt : P.size - 1 < B.size
      · have hl : (d.size : Int) < (B.size : Int) := by omega
        have HR : Hid (R = X) := Lib.hid (by rw [hR2, decide_eq_true hlt]; rfl)
        clear hR2 hlt
        go_enter Tryz.func17, Tryz.ntmps17
        go_wp2_with fail
        refine HA.out.mono ?_
        rintro e w1 ⟨rfl, hb1⟩
        have HB1 := Lib.hid hb1
        clear hb1
        go_wp2_with fail
        refine (HP.out _).mono ?_
        rintro e w2 ⟨rfl, rfl⟩
        go_wp2_with fail
        refine (HS.out _).mono ?_
        rintro e w3 ⟨rfl, rfl⟩
        go_wp2_with fail
        go_ret
        exact ⟨by rw [HR.out] <;> first | rfl , HB1.out⟩
      · have hl : ¬ (d.size : Int) < (B.size : Int) := by omega
        have HR : Hid (R = false) := Lib.hid (by rw [hR2, decide_eq_false hlt]; rfl)
        clear hR2 hlt
        go_enter Tryz.func17, Tryz.ntmps17
        go_wp2_with fail
        refine HA.out.mono ?_
        rintro e w1 ⟨rfl, hb1⟩
        have HB1 := Lib.hid hb1
        clear hb1
        go_wp2_with fail
        refine (HP.out _).mono ?_
        rintro e w2 ⟨rfl, rfl⟩
        go_wp2_with fail
        go_ret
        exact ⟨by rw [HR.out] <;> first | rfl , HB1.out⟩
    · have HR : Hid (R = false) := Lib.hid (by rw [hR2]; rfl)
      clear hR2
      go_enter Tryz.func17, Tryz.ntmps17
      go_wp2_with fail
      refine HA.out.mono ?_
      rintro e w1 ⟨rfl, hb1⟩
      have HB1 := Lib.hid hb1
      clear hb1
      go_wp2_with fail
      refine (HP.out _).mono ?_
      rintro e w2 ⟨rfl, rfl⟩
      go_wp2_with fail
      go_ret
      exact ⟨by rw [HR.out] <;> first | rfl , HB1.out⟩
  rw [decide_eq_false h2] at HP
  have hR2 : R = (decide (P.data.toList = B.data.toList) && (!D || decide (B.data.toList = homeL))) := by
    rw [hR]
    unfold hmaB
    rw [if_neg hne, if_neg h42, if_neg h2, hDn]
  clear hR hDn hne h42 h2 h0
  by_cases hab : P.data.toList = B.data.toList
  · have qe := txts_eq hab
    rw [decide_eq_true hab, Bool.true_and] at hR2
    cases D
    · have HR : Hid (R = true) := Lib.hid (by rw [hR2]; rfl)
      clear hR2 hab
      go_enter Tryz.func17, Tryz.ntmps17
      go_wp2_with fail
      refine HA.out.mono ?_
      rintro e w1 ⟨rfl, hb1⟩
      have HB1 := Lib.hid hb1
      clear hb1
      go_wp2_with fail
      refine (HP.out _).mono ?_
      rintro e w2 ⟨rfl, rfl⟩
      go_wp2_with fail
      go_ret
      exact ⟨by rw [HR.out] <;> first | rfl , HB1.out⟩
    · by_cases hh : B.data.toList = homeL
      · have q5 : (B.toList == [49, 50, 55, 46, 48, 46, 48, 46, 49]) = true := lit_yes hh
        have HR : Hid (R = true) := Lib.hid (by rw [hR2, decide_eq_true hh]; rfl)
        clear hR2 hab hh
        go_enter Tryz.func17, Tryz.ntmps17
        go_wp2_with fail
        refine HA.out.mono ?_
        rintro e w1 ⟨rfl, hb1⟩
        have HB1 := Lib.hid hb1
        clear hb1
        go_wp2_with fail
        refine (HP.out _).mono ?_
        rintro e w2 ⟨rfl, rfl⟩
        go_wp2_with fail
        go_ret
        exact ⟨by rw [HR.out] <;> first | rfl | exact ret_bool q5, HB1.out⟩
      · have q5 : (B.toList == [49, 50, 55, 46, 48, 46, 48, 46, 49]) = false := lit_no hh
        have HR : Hid (R = false) := Lib.hid (by rw [hR2, decide_eq_false hh]; rfl)
        clear hR2 hab hh
        go_enter Tryz.func17, Tryz.ntmps17
        go_wp2_with fail
        refine HA.out.mono ?_
        rintro e w1 ⟨rfl, hb1⟩
        have HB1 := Lib.hid hb1
        clear hb1
        go_wp2_with fail
        refine (HP.out _).mono ?_
        rintro e w2 ⟨rfl, rfl⟩
        go_wp2_with fail
        go_ret
        exact ⟨by rw [HR.out] <;> first | rfl | exact ret_bool q5, HB1.out⟩
  · have qe := txts_ne hab
    have HR : Hid (R = false) := Lib.hid (by rw [hR2, decide_eq_false hab]; rfl)
    clear hR2 hab
    go_enter Tryz.func17, Tryz.ntmps17
    go_wp2_with fail
    refine HA.out.mono ?_
    rintro e w1 ⟨rfl, hb1⟩
    have HB1 := Lib.hid hb1
    clear hb1
    go_wp2_with fail
    refine (HP.out _).mono ?_
    rintro e w2 ⟨rfl, rfl⟩
    go_wp2_with fail
    go_ret
    exact ⟨by rw [HR.out] <;> first | rfl , HB1.out⟩

set_option maxHeartbeats 4000000 in
theorem rhma_any (P B : ByteArray) (hp : P.size ≤ 1048576) (hb : B.size ≤ 1048576) (w : World) :
    Calls Tryz.prog 18 #[.string P, .string B] w fun e w' => e = .returned (.bool (hmaB P.data.toList B.data.toList)) ∧ Below w.heap.size w w' := by
  obtain ⟨R, hR⟩ : ∃ R, R = hmaB P.data.toList B.data.toList := ⟨_, rfl⟩
  rw [← hR]
  have HA := Lib.hid (raddress_any B (by omega) w)
  obtain ⟨x, hx⟩ : ∃ x : Int, x = ((optN (addressP B.data.toList) : Nat) : Int) := ⟨_, rfl⟩
  rw [← hx] at HA
  clear hx
  obtain ⟨D, hD⟩ : ∃ D, D = (addressP B.data.toList).isSome := ⟨_, rfl⟩
  have hDn : (addressP B.data.toList).isNone = !D := by rw [hD]; cases addressP B.data.toList <;> rfl
  rw [← hD] at HA
  clear hD
  by_cases h0 : B.size = 0
  · have y := emptyYes h0
    have HR : Hid (R = false) := Lib.hid (by rw [hR]; unfold hmaB; rw [if_pos (List.eq_nil_of_length_eq_zero (by rw [size_data]; exact h0))])
    clear h0 hR hDn
    go_enter Tryz.func18, Tryz.ntmps18
    go_wp2_with fail
    refine HA.out.mono ?_
    rintro e w1 ⟨rfl, hb1⟩
    have HB1 := Lib.hid hb1
    clear hb1
    go_wp2_with fail
    go_ret
    exact ⟨by rw [HR.out] <;> first | rfl , HB1.out⟩
  have y := emptyNo h0
  have hne := ne_of_size h0
  by_cases h42 : P.data.toList = [42]
  · have q := lit_yes h42
    have HR : Hid (R = true) := Lib.hid (by rw [hR]; unfold hmaB; rw [if_neg hne, if_pos h42])
    clear h0 hne h42 hR hDn
    go_enter Tryz.func18, Tryz.ntmps18
    go_wp2_with fail
    refine HA.out.mono ?_
    rintro e w1 ⟨rfl, hb1⟩
    have HB1 := Lib.hid hb1
    clear hb1
    go_wp2_with fail
    go_ret
    exact ⟨by rw [HR.out] <;> first | rfl , HB1.out⟩
  have q := lit_no h42
  by_cases h2 : P.data.toList.take 2 = [42, 46]
  · have h2s : 2 ≤ P.size := by
      have h5 := congrArg List.length h2
      rw [List.length_take, size_data] at h5
      simp at h5
      omega
    have hex : (P.extract 1 P.size).data.toList = P.data.toList.drop 1 := cut_tail (by omega)
    have hexs : (P.extract 1 P.size).size = P.size - 1 := by rw [← size_data, hex, List.length_drop, size_data]
    obtain ⟨d, hd⟩ : ∃ d : ByteArray, d = P.extract 1 P.size := ⟨_, rfl⟩
    have hd' : P.extract 1 P.size = d := hd.symm
    rw [← hd] at hex hexs
    have h1i : (1 : Int) ≤ (P.size : Int) := by omega
    have hR2 : R = (!D && (decide (P.size - 1 < B.size) && d.data.toList.isSuffixOf B.data.toList)) := by
      rw [hR]
      unfold hmaB
      rw [if_neg hne, if_neg h42, if_pos h2, hDn, hex, size_data, size_data]
    have hex2 : (P.extract 0 2).data.toList = P.data.toList.take 2 := by rw [cut_mid]; rfl
    have q2 : ((P.extract 0 2).toList == [42, 46]) = true := lit_yes (hex2.trans h2)
    have h2i : (2 : Int) ≤ (P.size : Int) := by omega
    have HS := Lib.hid (fun W => roends_any B d (by omega) (by omega) W)
    clear hex2
    obtain ⟨X, hX⟩ : ∃ X, X = d.data.toList.isSuffixOf B.data.toList := ⟨_, rfl⟩
    rw [← hX] at HS hR2
    clear hX hex hd h2 h42 hne h0 hR hDn
    cases D
    · by_cases hlt : P.size - 1 < B.size
      · have hl : (P.size : Int) - 1 < (B.size : Int) := by omega
        have HR : Hid (R = X) := Lib.hid (by rw [hR2, decide_eq_true hlt]; rfl)
        clear hR2 hlt
        go_enter Tryz.func18, Tryz.ntmps18
        go_wp2_with fail
        refine HA.out.mono ?_
        rintro e w1 ⟨rfl, hb1⟩
        have HB1 := Lib.hid hb1
        clear hb1
        go_wp2_with fail
        refine (HS.out _).mono ?_
        rintro e w3 ⟨rfl, rfl⟩
        go_wp2_with fail
        go_ret
        exact ⟨by rw [HR.out] <;> first | rfl , HB1.out⟩
      · have hl : ¬ (P.size : Int) - 1 < (B.size : Int) := by omega
        have HR : Hid (R = false) := Lib.hid (by rw [hR2, decide_eq_false hlt]; rfl)
        clear hR2 hlt
        go_enter Tryz.func18, Tryz.ntmps18
        go_wp2_with fail
        refine HA.out.mono ?_
        rintro e w1 ⟨rfl, hb1⟩
        have HB1 := Lib.hid hb1
        clear hb1
        go_wp2_with fail
        go_ret
        exact ⟨by rw [HR.out] <;> first | rfl , HB1.out⟩
    · have HR : Hid (R = false) := Lib.hid (by rw [hR2]; rfl)
      clear hR2
      go_enter Tryz.func18, Tryz.ntmps18
      go_wp2_with fail
      refine HA.out.mono ?_
      rintro e w1 ⟨rfl, hb1⟩
      have HB1 := Lib.hid hb1
      clear hb1
      go_wp2_with fail
      go_ret
      exact ⟨by rw [HR.out] <;> first | rfl , HB1.out⟩
  have hq2 : 2 ≤ P.size → ((P.extract 0 2).toList == [42, 46]) = false := fun _ => lit_no (fun e => h2 (by
    have hex2 : (P.extract 0 2).data.toList = P.data.toList.take 2 := by rw [cut_mid]; rfl
    rw [← hex2]; exact e))
  have hR2 : R = (decide (P.data.toList = B.data.toList) && (!D || decide (B.data.toList = homeL))) := by
    rw [hR]
    unfold hmaB
    rw [if_neg hne, if_neg h42, if_neg h2, hDn]
  clear hR hDn hne h42 h2 h0
  by_cases h2s : 2 ≤ P.size
  · have h2i : (2 : Int) ≤ (P.size : Int) := by omega
    have q2 := hq2 h2s
    clear hq2
    by_cases hab : P.data.toList = B.data.toList
    · have qe := txts_eq hab
      rw [decide_eq_true hab, Bool.true_and] at hR2
      cases D
      · have HR : Hid (R = true) := Lib.hid (by rw [hR2]; rfl)
        clear hR2 hab
        go_enter Tryz.func18, Tryz.ntmps18
        go_wp2_with fail
        refine HA.out.mono ?_
        rintro e w1 ⟨rfl, hb1⟩
        have HB1 := Lib.hid hb1
        clear hb1
        go_wp2_with fail
        go_ret
        exact ⟨by rw [HR.out] <;> first | rfl , HB1.out⟩
      · by_cases hh : B.data.toList = homeL
        · have q5 : (B.toList == [49, 50, 55, 46, 48, 46, 48, 46, 49]) = true := lit_yes hh
          have HR : Hid (R = true) := Lib.hid (by rw [hR2, decide_eq_true hh]; rfl)
          clear hR2 hab hh
          go_enter Tryz.func18, Tryz.ntmps18
          go_wp2_with fail
          refine HA.out.mono ?_
          rintro e w1 ⟨rfl, hb1⟩
          have HB1 := Lib.hid hb1
          clear hb1
          go_wp2_with fail
          go_ret
          exact ⟨by rw [HR.out] <;> first | rfl | exact ret_bool q5, HB1.out⟩
        · have q5 : (B.toList == [49, 50, 55, 46, 48, 46, 48, 46, 49]) = false := lit_no hh
          have HR : Hid (R = false) := Lib.hid (by rw [hR2, decide_eq_false hh]; rfl)
          clear hR2 hab hh
          go_enter Tryz.func18, Tryz.ntmps18
          go_wp2_with fail
          refine HA.out.mono ?_
          rintro e w1 ⟨rfl, hb1⟩
          have HB1 := Lib.hid hb1
          clear hb1
          go_wp2_with fail
          go_ret
          exact ⟨by rw [HR.out] <;> first | rfl | exact ret_bool q5, HB1.out⟩
    · have qe := txts_ne hab
      have HR : Hid (R = false) := Lib.hid (by rw [hR2, decide_eq_false hab]; rfl)
      clear hR2 hab
      go_enter Tryz.func18, Tryz.ntmps18
      go_wp2_with fail
      refine HA.out.mono ?_
      rintro e w1 ⟨rfl, hb1⟩
      have HB1 := Lib.hid hb1
      clear hb1
      go_wp2_with fail
      go_ret
      exact ⟨by rw [HR.out] <;> first | rfl , HB1.out⟩
  · have h2i : ¬ (2 : Int) ≤ (P.size : Int) := by omega
    clear hq2
    by_cases hab : P.data.toList = B.data.toList
    · have qe := txts_eq hab
      rw [decide_eq_true hab, Bool.true_and] at hR2
      cases D
      · have HR : Hid (R = true) := Lib.hid (by rw [hR2]; rfl)
        clear hR2 hab
        go_enter Tryz.func18, Tryz.ntmps18
        go_wp2_with fail
        refine HA.out.mono ?_
        rintro e w1 ⟨rfl, hb1⟩
        have HB1 := Lib.hid hb1
        clear hb1
        go_wp2_with fail
        go_ret
        exact ⟨by rw [HR.out] <;> first | rfl , HB1.out⟩
      · by_cases hh : B.data.toList = homeL
        · have q5 : (B.toList == [49, 50, 55, 46, 48, 46, 48, 46, 49]) = true := lit_yes hh
          have HR : Hid (R = true) := Lib.hid (by rw [hR2, decide_eq_true hh]; rfl)
          clear hR2 hab hh
          go_enter Tryz.func18, Tryz.ntmps18
          go_wp2_with fail
          refine HA.out.mono ?_
          rintro e w1 ⟨rfl, hb1⟩
          have HB1 := Lib.hid hb1
          clear hb1
          go_wp2_with fail
          go_ret
          exact ⟨by rw [HR.out] <;> first | rfl | exact ret_bool q5, HB1.out⟩
        · have q5 : (B.toList == [49, 50, 55, 46, 48, 46, 48, 46, 49]) = false := lit_no hh
          have HR : Hid (R = false) := Lib.hid (by rw [hR2, decide_eq_false hh]; rfl)
          clear hR2 hab hh
          go_enter Tryz.func18, Tryz.ntmps18
          go_wp2_with fail
          refine HA.out.mono ?_
          rintro e w1 ⟨rfl, hb1⟩
          have HB1 := Lib.hid hb1
          clear hb1
          go_wp2_with fail
          go_ret
          exact ⟨by rw [HR.out] <;> first | rfl | exact ret_bool q5, HB1.out⟩
    · have qe := txts_ne hab
      have HR : Hid (R = false) := Lib.hid (by rw [hR2, decide_eq_false hab]; rfl)
      clear hR2 hab
      go_enter Tryz.func18, Tryz.ntmps18
      go_wp2_with fail
      refine HA.out.mono ?_
      rintro e w1 ⟨rfl, hb1⟩
      have HB1 := Lib.hid hb1
      clear hb1
      go_wp2_with fail
      go_ret
      exact ⟨by rw [HR.out] <;> first | rfl , HB1.out⟩

theorem susual_any (S : ByteArray) (p : Int) (w : World) :
    Calls Tryz.prog 58 #[.string S, .int .i64 p] w fun e w' => e = .returned (.bool (normB S.data.toList p)) ∧ w' = w := by
  have HD := Lib.hid (udef_any S w)
  have hn : normB S.data.toList p = ((defP S.data.toList).2 && decide (p = (defP S.data.toList).1)) := rfl
  rw [hn]
  obtain ⟨d, hd⟩ : ∃ d, d = (defP S.data.toList).1 := ⟨_, rfl⟩
  obtain ⟨b, hb⟩ : ∃ b, b = (defP S.data.toList).2 := ⟨_, rfl⟩
  rw [← hd, ← hb] at HD ⊢
  have HQ : Hid ((d == p) = decide (p = d)) := Lib.hid (by rw [Bool.eq_iff_iff, beq_iff_eq, decide_eq_true_eq]; exact eq_comm)
  clear hn hd hb
  cases b
  · go_enter Tryz.func58, Tryz.ntmps58
    go_wp2_with fail
    refine HD.out.mono ?_
    rintro e w1 ⟨rfl, rfl⟩
    go_wp2_with fail
    go_ret
    exact ⟨rfl, rfl⟩
  · go_enter Tryz.func58, Tryz.ntmps58
    go_wp2_with fail
    refine HD.out.mono ?_
    rintro e w1 ⟨rfl, rfl⟩
    go_wp2_with fail
    go_ret
    exact ⟨ret_bool HQ.out, rfl⟩

theorem sportv_any (P : ByteArray) (hp : P.size ≤ 1048576) (w : World) :
    Calls Tryz.prog 59 #[.string P] w fun e w' => e = .returned (.tuple #[.int .i64 (sprtI P.data.toList), .bool (sprtB P.data.toList)]) ∧ w' = w := by
  have HT0 := Lib.hid (fun W => Tryz.strings_TrimLeft_one P 48 (by decide) W)
  obtain ⟨t, ht⟩ : ∃ t : ByteArray, t = ⟨(zerosL P.data.toList).toArray⟩ := ⟨_, rfl⟩
  have htl : t.data.toList = zerosL P.data.toList := by rw [ht]
  have HT : Hid (∀ W, Calls Tryz.prog 96 #[.string P, .string ⟨#[48]⟩] W fun e w' => e = .returned (.string t) ∧ w' = W) := by
    rw [ht]
    exact HT0
  have hts : t.size ≤ 1073741824 := by
    rw [← size_data, htl]
    exact Nat.le_trans (zeros_len _) (by rw [size_data]; omega)
  unfold sprtI sprtB
  rw [← htl]
  clear HT0 ht htl
  by_cases h0 : t.size = 0
  · have y := emptyYes h0
    have hn : t.data.toList = [] := List.eq_nil_of_length_eq_zero (by rw [size_data]; exact h0)
    rw [if_pos hn, if_pos hn]
    clear h0 hn hts
    go_enter Tryz.func59, Tryz.ntmps59
    go_wp2_with fail
    refine (HT.out _).mono ?_
    rintro e w1 ⟨rfl, rfl⟩
    go_wp2_with fail
    go_ret2
    exact ⟨rfl, rfl⟩
  · have y := emptyNo h0
    rw [if_neg (ne_of_size h0), if_neg (ne_of_size h0)]
    have HN := Lib.hid (fun W => number_any t 8 hts (by decide) W)
    obtain ⟨n, hn⟩ : ∃ n, n = numN t.data.toList 8 := ⟨_, rfl⟩
    obtain ⟨b, hb⟩ : ∃ b, b = numOk t.data.toList 8 := ⟨_, rfl⟩
    rw [← hn, ← hb] at HN ⊢
    clear hn hb h0 hts
    cases b
    · go_enter Tryz.func59, Tryz.ntmps59
      go_wp2_with fail
      refine (HT.out _).mono ?_
      rintro e w1 ⟨rfl, rfl⟩
      go_wp2_with fail
      refine (HN.out _).mono ?_
      rintro e w2 ⟨rfl, rfl⟩
      go_wp2_with fail
      go_ret2
      exact ⟨rfl, rfl⟩
    · go_enter Tryz.func59, Tryz.ntmps59
      go_wp2_with fail
      refine (HT.out _).mono ?_
      rintro e w1 ⟨rfl, rfl⟩
      go_wp2_with fail
      refine (HN.out _).mono ?_
      rintro e w2 ⟨rfl, rfl⟩
      go_wp2_with fail
      go_ret2
      exact ⟨by simp, rfl⟩

set_option maxHeartbeats 2000000 in
theorem spma_any (D S U P H T Q F : ByteArray) (pt : Int) (hq hf : Bool) (hD : D.size ≤ 5) (w : World) :
    Calls Tryz.prog 21 #[.string D, .agg #[.string S, .string U, .string P, .string H, .int .i64 pt, .string T, .bool hq, .string Q, .bool hf, .string F]] w fun e w' => e = .returned (.bool (pmaB D.data.toList S.data.toList (pU S.data.toList pt))) ∧ Below w.heap.size w w' := by
  obtain ⟨R, hR⟩ : ∃ R, R = pmaB D.data.toList S.data.toList (pU S.data.toList pt) := ⟨_, rfl⟩
  rw [← hR]
  have HPT : Hid (∀ W, Calls Tryz.prog 57 #[.agg #[.string S, .string U, .string P, .string H, .int .i64 pt, .string T, .bool hq, .string Q, .bool hf, .string F]] W fun e w' => e = .returned (.int .i64 (pU S.data.toList pt)) ∧ Below W.heap.size W w') := Lib.hid (fun W => uPortU_any S U P H T Q F pt hq hf W)
  obtain ⟨p, hp⟩ : ∃ p, p = pU S.data.toList pt := ⟨_, rfl⟩
  rw [← hp] at HPT hR
  clear hp
  obtain ⟨w0, hw0⟩ : ∃ w0, w0 = w.alloc (.cells #[.string S, .string U, .string P, .string H, .int .i64 pt, .string T, .bool hq, .string Q, .bool hf, .string F] 31) := ⟨_, rfl⟩
  have HU0 : Hid (Rw w0 0 w.heap.size 31 [.string S, .string U, .string P, .string H, .int .i64 pt, .string T, .bool hq, .string Q, .bool hf, .string F]) := Lib.hid (by rw [hw0]; exact Rw.alloc w _ _ (Nat.zero_le _))
  have HB0 : Hid (Below w.heap.size w w0) := Lib.hid (by rw [hw0]; exact below_more (Below.refl _ w) _)
  by_cases h0 : D.size = 0
  · have y := emptyYes h0
    have HUS := Lib.hid (fun W => susual_any S p W)
    have HR : Hid (R = normB S.data.toList p) := Lib.hid (by
      rw [hR]
      unfold pmaB normB
      rw [if_pos (List.eq_nil_of_length_eq_zero (by rw [size_data]; exact h0))])
    clear h0 hR hD
    go_enter Tryz.func21, Tryz.ntmps21
    go_wp2_with fail
    rw [← hw0]
    clear hw0
    refine (HPT.out _).mono ?_
    rintro e w1 ⟨rfl, hb1⟩
    have HB1 := Lib.hid (below_then HB0.out hb1)
    have c0 := Rw.cell (Rw.below HU0.out hb1) (j := 0) rfl
    clear hb1
    go_wp2_with fail
    refine (HUS.out _).mono ?_
    rintro e w2 ⟨rfl, rfl⟩
    go_wp2_with fail
    go_ret
    exact ⟨by rw [HR.out] <;> rfl, HB1.out⟩
  have y := emptyNo h0
  by_cases h42 : D.data.toList = [42]
  · have q := lit_yes h42
    have HR : Hid (R = true) := Lib.hid (by
      rw [hR]
      unfold pmaB
      rw [if_neg (ne_of_size h0), if_pos h42])
    clear h0 hR hD h42
    go_enter Tryz.func21, Tryz.ntmps21
    go_wp2_with fail
    rw [← hw0]
    clear hw0
    refine (HPT.out _).mono ?_
    rintro e w1 ⟨rfl, hb1⟩
    have HB1 := Lib.hid (below_then HB0.out hb1)
    clear hb1
    go_wp2_with fail
    go_ret
    exact ⟨by rw [HR.out] <;> rfl, HB1.out⟩
  have q := lit_no h42
  have HPV := Lib.hid (fun W => sportv_any D (by omega) W)
  have hR2 := hR.trans (pma_code (ne_of_size h0) h42 (by rw [size_data]; exact hD))
  obtain ⟨n, hn⟩ : ∃ n, n = sprtI D.data.toList := ⟨_, rfl⟩
  obtain ⟨b, hb⟩ : ∃ b, b = sprtB D.data.toList := ⟨_, rfl⟩
  rw [← hn, ← hb] at HPV hR2
  clear hn hb h0 hR hD h42
  cases b
  · have HR : Hid (R = false) := Lib.hid hR2
    clear hR2
    go_enter Tryz.func21, Tryz.ntmps21
    go_wp2_with fail
    rw [← hw0]
    clear hw0
    refine (HPT.out _).mono ?_
    rintro e w1 ⟨rfl, hb1⟩
    have HB1 := Lib.hid (below_then HB0.out hb1)
    clear hb1
    go_wp2_with fail
    refine (HPV.out _).mono ?_
    rintro e w2 ⟨rfl, rfl⟩
    go_wp2_with fail
    go_ret
    exact ⟨by rw [HR.out] <;> rfl, HB1.out⟩
  rw [Bool.true_and] at hR2
  by_cases hnp : n = p
  · have qa : (n == p) = true := by rw [beq_iff_eq]; exact hnp
    have HR : Hid (R = true) := Lib.hid (by rw [hR2, decide_eq_true hnp]; rfl)
    clear hR2 hnp
    go_enter Tryz.func21, Tryz.ntmps21
    go_wp2_with fail
    rw [← hw0]
    clear hw0
    refine (HPT.out _).mono ?_
    rintro e w1 ⟨rfl, hb1⟩
    have HB1 := Lib.hid (below_then HB0.out hb1)
    clear hb1
    go_wp2_with fail
    refine (HPV.out _).mono ?_
    rintro e w2 ⟨rfl, rfl⟩
    go_wp2_with fail
    go_ret
    exact ⟨by rw [HR.out] <;> rfl, HB1.out⟩
  have qa : (n == p) = false := by rw [beq_eq_false_iff_ne]; exact hnp
  rw [decide_eq_false hnp, Bool.false_or] at hR2
  by_cases h80 : n = 80
  · have qb : (n == 80) = true := by rw [beq_iff_eq]; exact h80
    have qc : (p == 443) = R := by
      rw [hR2, decide_eq_true h80, Bool.true_and, Bool.eq_iff_iff, beq_iff_eq, decide_eq_true_eq]
    clear hR2 hnp h80
    go_enter Tryz.func21, Tryz.ntmps21
    go_wp2_with fail
    rw [← hw0]
    clear hw0
    refine (HPT.out _).mono ?_
    rintro e w1 ⟨rfl, hb1⟩
    have HB1 := Lib.hid (below_then HB0.out hb1)
    clear hb1
    go_wp2_with fail
    refine (HPV.out _).mono ?_
    rintro e w2 ⟨rfl, rfl⟩
    go_wp2_with fail
    go_ret
    exact ⟨by first | rfl | exact ret_bool qc, HB1.out⟩
  · have qb : (n == 80) = false := by rw [beq_eq_false_iff_ne]; exact h80
    have HR : Hid (R = false) := Lib.hid (by rw [hR2, decide_eq_false h80]; rfl)
    clear hR2 hnp h80
    go_enter Tryz.func21, Tryz.ntmps21
    go_wp2_with fail
    rw [← hw0]
    clear hw0
    refine (HPT.out _).mono ?_
    rintro e w1 ⟨rfl, hb1⟩
    have HB1 := Lib.hid (below_then HB0.out hb1)
    clear hb1
    go_wp2_with fail
    refine (HPV.out _).mono ?_
    rintro e w2 ⟨rfl, rfl⟩
    go_wp2_with fail
    go_ret
    exact ⟨by rw [HR.out] <;> rfl, HB1.out⟩

theorem val_bd (l : List UInt8) (h : digsB l = true) (hl : l.length ≤ 5) : valN l ≤ 99999 := by
  have h1 := (numVal_bd l h).2
  have h2 := val_num h
  have hp : (10 : Int) ^ l.length ≤ 10 ^ 5 := by
    have : (10 : Nat) ^ l.length ≤ 10 ^ 5 := Nat.pow_le_pow_right (by omega) (by omega)
    exact_mod_cast this
  omega

set_option maxHeartbeats 4000000 in
theorem rspma_any (D S U P H T Q F : ByteArray) (pt : Int) (hq hf : Bool) (hD : D.size ≤ 5) (w : World) :
    Calls Tryz.prog 23 #[.string D, .agg #[.string S, .string U, .string P, .string H, .int .i64 pt, .string T, .bool hq, .string Q, .bool hf, .string F]] w fun e w' => e = .returned (.bool (pmaB D.data.toList S.data.toList (pU S.data.toList pt))) ∧ Below w.heap.size w w' := by
  obtain ⟨R, hR⟩ : ∃ R, R = pmaB D.data.toList S.data.toList (pU S.data.toList pt) := ⟨_, rfl⟩
  rw [← hR]
  have HPT : Hid (∀ W, Calls Tryz.prog 61 #[.agg #[.string S, .string U, .string P, .string H, .int .i64 pt, .string T, .bool hq, .string Q, .bool hf, .string F]] W fun e w' => e = .returned (.int .i64 (pU S.data.toList pt)) ∧ Below W.heap.size W w') := Lib.hid (fun W => rPortU_any S U P H T Q F pt hq hf W)
  obtain ⟨p, hp⟩ : ∃ p, p = pU S.data.toList pt := ⟨_, rfl⟩
  rw [← hp] at HPT hR
  clear hp
  obtain ⟨w0, hw0⟩ : ∃ w0, w0 = w.alloc (.cells #[.string S, .string U, .string P, .string H, .int .i64 pt, .string T, .bool hq, .string Q, .bool hf, .string F] 31) := ⟨_, rfl⟩
  have HU0 : Hid (Rw w0 0 w.heap.size 31 [.string S, .string U, .string P, .string H, .int .i64 pt, .string T, .bool hq, .string Q, .bool hf, .string F]) := Lib.hid (by rw [hw0]; exact Rw.alloc w _ _ (Nat.zero_le _))
  have HB0 : Hid (Below w.heap.size w w0) := Lib.hid (by rw [hw0]; exact below_more (Below.refl _ w) _)
  have HW0 := Lib.hid hw0
  by_cases h0 : D.size = 0
  · have y := emptyYes h0
    have HD := Lib.hid (fun W => rdef_any S W)
    have hR2 : R = ((defP S.data.toList).2 && decide (p = (defP S.data.toList).1)) := by
      rw [hR]
      unfold pmaB
      rw [if_pos (List.eq_nil_of_length_eq_zero (by rw [size_data]; exact h0))]
    obtain ⟨d, hd⟩ : ∃ d, d = (defP S.data.toList).1 := ⟨_, rfl⟩
    obtain ⟨b, hb⟩ : ∃ b, b = (defP S.data.toList).2 := ⟨_, rfl⟩
    rw [← hd, ← hb] at HD hR2
    clear h0 hR hD hd hb
    have k0 := Rw.cell HU0.out (j := 0) rfl
    have k1 := Rw.cell HU0.out (j := 1) rfl
    have k2 := Rw.cell HU0.out (j := 2) rfl
    have k3 := Rw.cell HU0.out (j := 3) rfl
    have k4 := Rw.cell HU0.out (j := 4) rfl
    have k5 := Rw.cell HU0.out (j := 5) rfl
    have k6 := Rw.cell HU0.out (j := 6) rfl
    have k7 := Rw.cell HU0.out (j := 7) rfl
    have k8 := Rw.cell HU0.out (j := 8) rfl
    have k9 := Rw.cell HU0.out (j := 9) rfl
    cases b
    · have HR : Hid (R = false) := Lib.hid hR2
      clear hR2
      go_enter Tryz.func23, Tryz.ntmps23
      go_wp2_with fail
      rw [← hw0]
      clear hw0
      refine (HD.out _).mono ?_
      rintro e w1 ⟨rfl, rfl⟩
      go_wp2_with fail
      go_ret
      exact ⟨by rw [HR.out] <;> rfl, HB0.out⟩
    · have HR : Hid ((p == d) = R) := Lib.hid (by rw [hR2, Bool.true_and, Bool.eq_iff_iff, beq_iff_eq, decide_eq_true_eq])
      clear hR2
      go_enter Tryz.func23, Tryz.ntmps23
      go_wp2_with fail
      rw [← hw0]
      clear hw0
      refine (HD.out _).mono ?_
      rintro e w1 ⟨rfl, rfl⟩
      go_wp2_with fail
      refine (HPT.out _).mono ?_
      rintro e w2 ⟨rfl, hb2⟩
      have HB2 := Lib.hid (below_then HB0.out hb2)
      clear hb2
      go_wp2_with fail
      go_ret
      exact ⟨ret_bool HR.out, HB2.out⟩
  have y := emptyNo h0
  by_cases h42 : D.data.toList = [42]
  · have q := lit_yes h42
    have HR : Hid (R = true) := Lib.hid (by
      rw [hR]
      unfold pmaB
      rw [if_neg (ne_of_size h0), if_pos h42])
    clear h0 hR hD h42
    go_enter Tryz.func23, Tryz.ntmps23
    go_wp2_with fail
    go_ret
    refine ⟨by rw [HR.out] <;> rfl, ?_⟩
    rw [← hw0]
    exact HB0.out
  have q := lit_no h42
  have HNE := Lib.hid (And.intro (ne_of_size h0) h42)
  have HRR := Lib.hid hR
  have HDS := Lib.hid hD
  clear h0 hR hD h42
  go_enter Tryz.func23, Tryz.ntmps23
  go_wp2_with fail
  rw [← hw0]
  clear hw0
  go_loop [7, 8] (fun n i => ∃ k : Nat, k ≤ D.size ∧ i = .int .i64 k ∧ n = .int .i64 ((valN (D.data.toList.take k) : Nat) : Int) ∧ Hid (digsB (D.data.toList.take k) = true)) (fun _ i => D.size - (intOf i).toNat)
  case atStart => exact ⟨0, Nat.zero_le _, rfl, rfl, Lib.hid rfl⟩
  case round =>
    obtain ⟨k, hk, rfl, rfl, HN⟩ := hrel
    have hbd := val_bd (D.data.toList.take k) HN.out (by rw [List.length_take, size_data]; have := HDS.out; omega)
    obtain ⟨n, hn⟩ : ∃ n, n = valN (D.data.toList.take k) := ⟨_, rfl⟩
    rw [← hn] at hbd ⊢
    have HNV := Lib.hid hn
    have hk5 : (k : Int) ≤ 5 := by have := HDS.out; omega
    have hn5 : (n : Int) ≤ 99999 := by omega
    clear hn hbd
    by_cases hlt : k < D.size
    · have HDG := Lib.hid (ref_digit_byte D[k] w0)
      have htk : D.data.toList.take (k + 1) = D.data.toList.take k ++ [D[k]] := take_snoc D k hlt
      cases hdg : isDig D[k].toNat
      · rw [hdg] at HDG
        have HR : Hid (R = false) := Lib.hid (by
          rw [HRR.out]
          refine pma_bad HNE.out.1 HNE.out.2 ?_
          unfold digsB
          rw [← Bool.not_eq_true, List.all_eq_true]
          intro ha
          have := ha D[k] (by show D.data.toList[k]'(by rw [size_data]; exact hlt) ∈ _; exact List.getElem_mem _)
          rw [hdg] at this
          cases this)
        clear hdg htk HN HNV
        go_wp2_with fail
        refine HDG.out.mono ?_
        rintro e w1 ⟨rfl, rfl⟩
        go_wp2_with fail
        go_ret
        exact ⟨by rw [HR.out] <;> rfl, HB0.out⟩
      · rw [hdg] at HDG
        obtain ⟨hd1, hd2⟩ := dig_bd2 hdg
        have hd1i : (48 : Int) ≤ (D[k].toNat : Int) := by omega
        have hd2i : (D[k].toNat : Int) ≤ 57 := by omega
        have hnm : ¬ (1000000 : Int) < (n : Int) := by omega
        have HV : Hid (((valN (D.data.toList.take (k + 1)) : Nat) : Int) = 10 * (n : Int) + ((D[k].toNat : Int) - 48)) := Lib.hid (by
          rw [htk, val_snoc, ← HNV.out]
          omega)
        have HF : Hid (digsB (D.data.toList.take (k + 1)) = true) := Lib.hid (by
          rw [htk]
          unfold digsB
          rw [List.all_append, List.all_cons, hdg]
          have := HN.out
          unfold digsB at this
          rw [this]
          rfl)
        clear hdg htk HN HNV
        go_wp2_with fail
        refine HDG.out.mono ?_
        rintro e w1 ⟨rfl, rfl⟩
        go_wp2_with fail
        go_round
        case rel => exact ⟨k + 1, by omega, by go_num, by rw [HV.out], HF⟩
        case measure => simp [intOf]; omega
    · have HR : Hid (R = (decide ((n : Int) = p) || (decide (n = 80) && decide (p = 443)))) := Lib.hid (by
        have h1 := HN.out
        have h2 := HNV.out
        rw [List.take_of_length_le (by rw [size_data]; omega)] at h1 h2
        rw [HRR.out, pma_digs HNE.out.1 HNE.out.2 h1, ← h2])
      have k0 := Rw.cell HU0.out (j := 0) rfl
      have k1 := Rw.cell HU0.out (j := 1) rfl
      have k2 := Rw.cell HU0.out (j := 2) rfl
      have k3 := Rw.cell HU0.out (j := 3) rfl
      have k4 := Rw.cell HU0.out (j := 4) rfl
      have k5 := Rw.cell HU0.out (j := 5) rfl
      have k6 := Rw.cell HU0.out (j := 6) rfl
      have k7 := Rw.cell HU0.out (j := 7) rfl
      have k8 := Rw.cell HU0.out (j := 8) rfl
      have k9 := Rw.cell HU0.out (j := 9) rfl
      clear HN HNV HRR
      go_wp2_with fail
      refine (HPT.out _).mono ?_
      rintro e w2 ⟨rfl, hb2⟩
      have HB2 := Lib.hid (below_then HB0.out hb2)
      have HU2 := Lib.hid (Rw.below HU0.out hb2)
      clear hb2 k0 k1 k2 k3 k4 k5 k6 k7 k8 k9
      have k0 := Rw.cell HU2.out (j := 0) rfl
      have k1 := Rw.cell HU2.out (j := 1) rfl
      have k2 := Rw.cell HU2.out (j := 2) rfl
      have k3 := Rw.cell HU2.out (j := 3) rfl
      have k4 := Rw.cell HU2.out (j := 4) rfl
      have k5 := Rw.cell HU2.out (j := 5) rfl
      have k6 := Rw.cell HU2.out (j := 6) rfl
      have k7 := Rw.cell HU2.out (j := 7) rfl
      have k8 := Rw.cell HU2.out (j := 8) rfl
      have k9 := Rw.cell HU2.out (j := 9) rfl
      by_cases hnp : (n : Int) = p
      · have qa : ((n : Int) == p) = true := by rw [beq_iff_eq]; exact hnp
        have HQ : Hid (R = true) := Lib.hid (by rw [HR.out, decide_eq_true hnp]; rfl)
        clear hnp
        go_wp2_with fail
        go_ret
        exact ⟨by rw [HQ.out] <;> rfl, HB2.out⟩
      · have qa : ((n : Int) == p) = false := by rw [beq_eq_false_iff_ne]; exact hnp
        by_cases h80 : n = 80
        · have qb : ((n : Int) == 80) = true := by rw [beq_iff_eq]; omega
          have HQ : Hid ((p == 443) = R) := Lib.hid (by
            rw [HR.out, decide_eq_false hnp, decide_eq_true h80, Bool.true_and, Bool.false_or, Bool.eq_iff_iff, beq_iff_eq, decide_eq_true_eq])
          clear hnp h80
          go_wp2_with fail
          refine (HPT.out _).mono ?_
          rintro e w3 ⟨rfl, hb3⟩
          have HB3 := Lib.hid (below_then HB2.out hb3)
          clear hb3
          go_wp2_with fail
          go_ret
          exact ⟨ret_bool HQ.out, HB3.out⟩
        · have qb : ((n : Int) == 80) = false := by rw [beq_eq_false_iff_ne]; omega
          have HQ : Hid (R = false) := Lib.hid (by rw [HR.out, decide_eq_false hnp, decide_eq_false h80]; rfl)
          clear hnp h80
          go_wp2_with fail
          go_ret
          exact ⟨by rw [HQ.out] <;> rfl, HB2.out⟩

theorem rnormal_any (S H : ByteArray) (p : Int) (w : World) :
    Calls Tryz.prog 68 #[.agg #[.string S, .string H, .int .i64 p]] w fun e w' => e = .returned (.bool (normB S.data.toList p)) ∧ Below w.heap.size w w' := by
  have HD := Lib.hid (fun W => rdef_any S W)
  have hn : normB S.data.toList p = ((defP S.data.toList).2 && decide (p = (defP S.data.toList).1)) := rfl
  rw [hn]
  obtain ⟨d, hd⟩ : ∃ d, d = (defP S.data.toList).1 := ⟨_, rfl⟩
  obtain ⟨b, hb⟩ : ∃ b, b = (defP S.data.toList).2 := ⟨_, rfl⟩
  rw [← hd, ← hb] at HD ⊢
  have HQ : Hid ((d == p) = decide (p = d)) := Lib.hid (by rw [Bool.eq_iff_iff, beq_iff_eq, decide_eq_true_eq]; exact eq_comm)
  clear hn hd hb
  obtain ⟨w0, hw0⟩ : ∃ w0, w0 = w.alloc (.cells #[.string S, .string H, .int .i64 p] 42) := ⟨_, rfl⟩
  have HU0 : Hid (Rw w0 0 w.heap.size 42 [.string S, .string H, .int .i64 p]) := Lib.hid (by rw [hw0]; exact Rw.alloc w _ _ (Nat.zero_le _))
  have HB0 : Hid (Below w.heap.size w w0) := Lib.hid (by rw [hw0]; exact below_more (Below.refl _ w) _)
  have k0 := Rw.cell HU0.out (j := 0) rfl
  have k2 := Rw.cell HU0.out (j := 2) rfl
  cases b
  · go_enter Tryz.func68, Tryz.ntmps68
    go_wp2_with fail
    rw [← hw0]
    clear hw0
    refine (HD.out _).mono ?_
    rintro e w1 ⟨rfl, rfl⟩
    go_wp2_with fail
    go_ret
    exact ⟨rfl, HB0.out⟩
  · go_enter Tryz.func68, Tryz.ntmps68
    go_wp2_with fail
    rw [← hw0]
    clear hw0
    refine (HD.out _).mono ?_
    rintro e w1 ⟨rfl, rfl⟩
    go_wp2_with fail
    go_ret
    exact ⟨ret_bool HQ.out, HB0.out⟩

end Go.Proofs.YtnecjofgjbfheaaGreatDoor
