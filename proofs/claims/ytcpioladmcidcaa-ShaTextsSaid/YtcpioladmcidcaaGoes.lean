/-
  ShaGoes: for every list of slices of bytes a sum that is taken piece by piece is that of all, at each moment; the law returns true, and what was there has not turned. Condition: what comes in is of bulk at most 1,048,576.
-/
import Derived.Deep.RegionHeld3
import Derived.BigRegion
import Derived.Test.YtcpioladmcidcaaProg
import Derived.Test.YtcpioladmcidcaaKit
import Derived.Test.YtcpioladmcidcaaLaw
import Derived.Test.YtcpioladmcidcaaInfo
import Derived.Test.YtcpioladmcidcaaRow
import Derived.Test.YtcpioladmcidcaaCod2
import Derived.Test.YtcpioladmcidcaaCod5
import Derived.Test.YtcpioladmcidcaaCod6
import Derived.Test.YtcpioladmcidcaaCod7
import Derived.Test.YtcpioladmcidcaaCod8
import Derived.Test.YtcpioladmcidcaaCod9
import Derived.Test.YtcpioladmcidcaaLaw2
import Derived.Test.YtcpioladmcidcaaOwn
import Derived.Test.YtcpioladmcidcaaJoin
import Derived.Test.YtcpioladmcidcaaLaw3
import Derived.Test.YtcpioladmcidcaaLens
namespace Go.Proofs.Ytcpioladmcidcaa
open Go.ChangeShapes Go.WideShapes Go.ChangeAt Go.RowKit Go.Proofs

theorem write_nil (a : Option Addr) (n c : Nat) (w : World) : Calls Try.prog 17 #[.pointer none, .slice a n c] w fun e w' => e = .returned (.tuple #[]) ∧ w = w' := by
  go_enter Try.func17, Try.ntmps17
  go_wp2
  exact bodyPost_ret (results_none rfl _ _ _) rfl ⟨rfl, rfl⟩

theorem DigAt.save {w w' : World} {base g g' B : Nat} {l : List UInt8} (h : DigAt w base g l) (hs : Save B g' w w') (hB : w.heap.size ≤ B) (hg : g ≠ g') : DigAt w' base g l := by
  obtain ⟨s, b, h1, h2, hr⟩ := h
  exact ⟨s, b, h1, h2, hr.save hs (Nat.lt_of_lt_of_le hr.size hB) hg⟩

/-- all[:t]. -/
theorem slice_to {P : Program} {T : TypeId} (ht : P.underlying T = some (.slice (P.elem T))) (hs : (P.info? (P.elem T)).map (·.size) = some 1) {w : World} {B : Nat} (a : Option Addr) (len cap t : Nat) (l : List UInt8) (h : t ≤ cap) (hl : Lies w B a l) :
    ∃ A, Lies w B A (l.take t) ∧ ∀ W, (Instr.slice T (.slice a len cap) none (some (.int .i64 (t : Int))) none).run P W = .ok (.slice A t cap) W := by
  refine ⟨if cap = 0 then a else a.map (·.add (0 * 1)), ?_, fun W => ?_⟩
  · rcases hl with rfl | ⟨b, o, rfl, hb, hby⟩
    · exact .inl (by simp)
    · refine .inr ⟨b, o, ?_, hb, fun j x hj => ?_⟩
      · split
        · rfl
        · simp [Addr.add_mid]
      · rw [List.getElem?_take] at hj
        split at hj
        · exact hby j x hj
        · cases hj
  · rw [run_slice_h W T a len cap ht .i64 t (by omega) (by omega), run_size1 hs]
    simp [Result.andThen, sliced]

/-- What stands while pieces are written. -/
def GoesAt (w1 : World) (gd gz : Nat) (cur : List UInt8) (W : World) : Prop := DigAt W gd gd cur ∧ DigAt W gz gz cur ∧ Below w1.heap.size w1 W

theorem GoesAt.next {w1 W W' : World} {gd gz : Nat} {cur : List UInt8} (h : GoesAt w1 gd gz cur W) (hb : Below W.heap.size W W') : GoesAt w1 gd gz cur W' := ⟨h.1.below hb, h.2.1.below hb, below_then h.2.2 hb⟩

theorem GoesAt.more {w1 W : World} {gd gz : Nat} {cur : List UInt8} (h : GoesAt w1 gd gz cur W) (o : Obj) : GoesAt w1 gd gz cur (W.alloc o) := h.next (below_more (Below.refl _ _) o)

theorem GoesAt.part {w1 W : World} {gd gz : Nat} {cur : List UInt8} (h : GoesAt w1 gd gz cur W) {v : Value} {l : List UInt8} (hl : PartV w1 w1.heap.size v l) : PartV W W.heap.size v l := hl.later h.2.2 h.2.2.size

theorem parts_now (W : World) (v : Value) (l : List UInt8) (e : TypeId) (h : PartV (W.alloc (.cells #[v] e)) (W.alloc (.cells #[v] e)).heap.size v l) : PartsAt (W.alloc (.cells #[v] e)) (W.alloc (.cells #[v] e)).heap.size (.slice (some ⟨W.heap.size, 0, none⟩) 1 1) [l] := by
  refine ⟨_, 1, rfl, .inr ⟨W.heap.size, 0, rfl, by simp, fun j m hj => ?_⟩⟩
  match j, hj with
  | 0, hj =>
    cases hj
    exact ⟨v, by rw [Nat.zero_add, alloc_cell]; rfl, h⟩

theorem parts_then {Y W' : World} {v : Value} {l : List UInt8} {g : Nat} (hb : Below Y.heap.size Y W') (hcell : Y.cell? ⟨g, 0, none⟩ = some v) (h : PartV W' W'.heap.size v l) : PartsAt W' W'.heap.size (.slice (some ⟨g, 0, none⟩) 1 1) [l] := by
  have hlt := block_of_cell hcell
  refine ⟨_, 1, rfl, .inr ⟨g, 0, rfl, Nat.lt_of_lt_of_le hlt hb.size, fun j m hj => ?_⟩⟩
  match j, hj with
  | 0, hj =>
    cases hj
    refine ⟨v, ?_, h⟩
    rw [hb.cell (p := ⟨g, 0 + 0, none⟩) hlt, Nat.zero_add]
    exact hcell

theorem sum_one (l : List UInt8) (v : Value) (w : World) (hp : PartsAt w w.heap.size v [l]) (hl : l.length < 4294967296) :
    Calls Try.prog 10 #[v] w fun e w' => e = .returned (shaV l) ∧ Below w.heap.size w w' := by
  have h := sum_any [l] v w hp (by rw [List.flatten_singleton]; exact hl) (by simp)
  rw [List.flatten_singleton] at h
  exact h

theorem GoesAt.dig {w1 W : World} {gd gz : Nat} {cur : List UInt8} (h : GoesAt w1 gd gz cur W) : DigAt W gd gd cur := h.1

theorem flat_take (ls : List (List UInt8)) (k : Nat) : ls.flatten.take (ls.take k).flatten.length = (ls.take k).flatten := by
  have h2 : ls.flatten = (ls.take k).flatten ++ (ls.drop k).flatten := by rw [← List.flatten_append, List.take_append_drop]
  conv => lhs; rw [h2]
  rw [List.take_left]

theorem flat_take_le (ls : List (List UInt8)) (k : Nat) : (ls.take k).flatten.length ≤ ls.flatten.length := by
  have h2 : ls.flatten = (ls.take k).flatten ++ (ls.drop k).flatten := by rw [← List.flatten_append, List.take_append_drop]
  rw [h2, List.length_append]
  omega

set_option maxRecDepth 100000 in
set_option maxHeartbeats 2000000 in
theorem shaGoes_any (v : Value) (ls : List (List UInt8)) (w : World) (hp : PartsB w w.heap.size v ls) (hl : ls.flatten.length ≤ 1048576) (hn : ls.length ≤ 1048576) :
    Calls Try.prog 5 #[v] w fun e w' => e = .returned (.bool true) ∧ Below w.heap.size w w' := by
  have HJ := Lib.hid (joined_any ls v w hp (by omega) (by omega))
  have hlen := hp.len
  clear hp
  obtain ⟨A, C, rfl, hcells⟩ := hlen
  obtain ⟨n, hnn⟩ : ∃ n, n = ls.length := ⟨_, rfl⟩
  rw [← hnn] at hn HJ ⊢
  have HC := Lib.hid hcells
  have HNN := Lib.hid hnn
  obtain ⟨N, hN⟩ : ∃ N, N = ls.flatten.length := ⟨_, rfl⟩
  rw [← hN] at hl HJ
  have HN := Lib.hid hN
  clear hnn hN hcells
  go_enter Try.func5, Try.ntmps5
  go_wp2_with fail
  refine (HJ.out).mono ?_
  rintro e w1 ⟨⟨v1, rfl, hown1⟩, hb1⟩
  obtain ⟨a1, c1, rfl⟩ := own_len hown1
  have HO1 := Lib.hid hown1
  have HB1 := Lib.hid hb1
  clear hown1 hb1 HJ
  by_cases h7 : (700 : Int) < (N : Int)
  · go_wp2_with fail
    refine (awake_any _).mono ?_
    rintro e w' ⟨rfl, hb2⟩
    have HB2 := Lib.hid (below_then HB1.out hb2)
    clear hb2
    go_wp2
    go_ret
    exact ⟨rfl, HB2.out⟩
  by_cases h5 : (30 : Int) < (n : Int)
  · go_wp2_with fail
    refine (awake_any _).mono ?_
    rintro e w' ⟨rfl, hb2⟩
    have HB2 := Lib.hid (below_then HB1.out hb2)
    clear hb2
    go_wp2
    go_ret
    exact ⟨rfl, HB2.out⟩
  obtain ⟨D, hD, hDD⟩ : ∃ D, (∀ w, (zeroValue 47).run Try.prog w = .ok (.agg D) w) ∧ D = Array.replicate 8 (.int .u32 0) ++ #[.int .u64 0] ++ Array.replicate 64 (.int .u8 0) := ⟨_, zero_cells Try.infoDig, rfl⟩
  have HDD := Lib.hid hDD
  have hs1 := own_sl HO1.out
  obtain ⟨a1', c1', hsv, hlc, hli⟩ := hs1.part
  injection hsv with q1 q2 q3
  subst q1; subst q3
  have HLI := Lib.hid hli
  have HLC : Hid (N ≤ c1) := Lib.hid (by rw [q2]; exact hlc)
  clear hDD hs1 q2 hlc hli
  go_wp2_with fail
  refine (new_any w1).mono ?_
  rintro e w2 ⟨rfl, hd2, hb2⟩
  obtain ⟨gd, hgd⟩ : ∃ gd, gd = w1.heap.size := ⟨_, rfl⟩
  rw [← hgd] at hd2 hb2 ⊢
  obtain ⟨gz, hgz⟩ : ∃ gz, gz = w2.heap.size := ⟨_, rfl⟩
  have hz3 := digAt_zero HDD.out (Rw.alloc w2 47 D (base := w2.heap.size) (Nat.le_refl _))
  have hg3 : GoesAt w1 gd gz [] (w2.alloc (.cells D 47)) := by
    refine ⟨hd2.below (below_more (Below.refl _ _) _), by rw [hgz]; exact hz3, ?_⟩
    rw [hgd] at hb2
    exact below_more hb2 _
  have HG3 := Lib.hid hg3
  have HGD : Hid (gd = w1.heap.size) := Lib.hid hgd
  have HGZ : Hid (gd < gz) := Lib.hid (by obtain ⟨_, _, _, _, hr⟩ := hd2; rw [hgz]; exact hr.size)
  go_wp2_with (refine wpList_alloc_z rfl 47 rfl D hD ?_)
  simp only [← hgz, ← hgd]
  clear hd2 hb2 hz3 hg3 hgd hgz h7 h5
  generalize w2.alloc (.cells D 47) = w3 at HG3 ⊢
  go_loopw [6, 7] (fun t i wr => ∃ (k tt : Nat), k ≤ n ∧ i = .int .i64 k ∧ t = .int .i64 (tt : Int) ∧ Hid (tt = (ls.take k).flatten.length) ∧ Hid (GoesAt w1 gd gz (ls.take k).flatten wr)) (fun _ i _ => n - (intOf i).toNat)
  case atStart => exact ⟨0, 0, Nat.zero_le _, rfl, rfl, Lib.hid rfl, HG3⟩
  case round =>
    clear HG3
    obtain ⟨k, tt, hk, rfl, rfl, HTT, HG⟩ := hrel
    obtain ⟨w4, hw4⟩ : ∃ w4 : World, w4 = wr := ⟨_, rfl⟩
    subst hw4
    by_cases hlt : k < n
    · obtain ⟨m, hm⟩ : ∃ m, ls[k]? = some m := ⟨_, List.getElem?_eq_getElem (by rw [← HNN.out]; exact hlt)⟩
      have hne : ls ≠ [] := by intro e; have := HNN.out; rw [e] at this; simp at this; omega
      obtain ⟨b, o, rfl, hbw, hcells⟩ := HC.out.resolve_left hne
      obtain ⟨u, hu, hsl⟩ := hcells k m hm
      obtain ⟨au, cu, rfl, hmc, hlies⟩ := hsl.part
      obtain ⟨cur, hcur⟩ : ∃ cur, cur = (ls.take k).flatten := ⟨_, rfl⟩
      have hnext : (ls.take (k + 1)).flatten = cur ++ m := by rw [flat_succ hm, hcur]
      have hfle := flat_le hm
      rw [← hcur] at hfle
      have hg := HG.out
      rw [← hcur] at hg
      have hbw4 : Below w.heap.size w w4 := HB1.out.trans (hg.2.2.mono HB1.out.size)
      have hcell : w4.cell? ⟨b, o + k, none⟩ = some (.slice au m.length cu) := (hbw4.cell (p := ⟨b, o + k, none⟩) hbw).trans hu
      have hBd : w.heap.size ≤ gd := by rw [HGD.out]; exact HB1.out.size
      have hdz := HGZ.out
      have hwr := write_any gd gd cur m au cu w4 hg.1 ((hlies.keep hbw4 (Nat.le_refl _)).out hBd) hmc (by have := HN.out; omega)
      have HWR := Lib.hid hwr
      have HG4 := Lib.hid hg
      have HLS := Lib.hid hlies
      have HMC := Lib.hid hmc
      have HCUR := Lib.hid hcur
      have HNX := Lib.hid hnext
      have HFL : Hid (cur.length + m.length ≤ N) := Lib.hid (by rw [HN.out]; exact hfle)
      have HU := Lib.hid hu
      have HBW := Lib.hid hbw
      have HBW4 := Lib.hid hbw4
      have HBD := Lib.hid hBd
      have HKL := Lib.hid hlt
      have hy : (k : Int) < (n : Int) := by omega
      clear hm hne hcells hu hsl hmc hlies hcur hnext hfle hg hbw4 hBd hdz hwr hk hbw HG
      go_wp2_with fail
      refine (HWR.out).mono ?_
      rintro e w5 ⟨rfl, hd5, hs5⟩
      have hb45 : Below w1.heap.size w4 w5 := hs5.below (Below.refl _ _) (by rw [HGD.out]; exact Nat.le_refl _) HG4.out.2.2.size
      have hz5 : DigAt w5 gz gz cur := HG4.out.2.1.save hs5 (Nat.le_refl _) (by have := HGZ.out; omega)
      have hcell5 : w5.cell? ⟨b, o + k, none⟩ = some (.slice au m.length cu) := (hb45.cell (p := ⟨b, o + k, none⟩) (Nat.lt_of_lt_of_le HBW.out HB1.out.size)).trans hcell
      have hbw5 : Below w.heap.size w w5 := HBW4.out.trans (hb45.mono HB1.out.size)
      have hwr2 := write_any gz gz cur m au cu w5 hz5 ((HLS.out.keep hbw5 (Nat.le_refl _)).out (by have := HGZ.out; have := HBD.out; omega)) HMC.out (by have := HFL.out; omega)
      have HWR2 := Lib.hid hwr2
      have HD5 := Lib.hid hd5
      have HB15 := Lib.hid (HG4.out.2.2.trans hb45)
      clear hd5 hs5 hb45 hz5 hbw5 hwr2 HWR HG4 hcell
      go_wp2_with fail
      refine (HWR2.out).mono ?_
      rintro e w6 ⟨rfl, hd6, hs6⟩
      have hb56 : Below w1.heap.size w5 w6 := hs6.below (Below.refl _ _) (by have := HGZ.out; have := HGD.out; omega) HB15.out.size
      have hcell6 : w6.cell? ⟨b, o + k, none⟩ = some (.slice au m.length cu) := (hb56.cell (p := ⟨b, o + k, none⟩) (Nat.lt_of_lt_of_le HBW.out HB1.out.size)).trans hcell5
      have hg6 : GoesAt w1 gd gz (cur ++ m) w6 := ⟨HD5.out.save hs6 (Nat.le_refl _) (by have := HGZ.out; omega), hd6, HB15.out.trans hb56⟩
      have HG6 := Lib.hid hg6
      obtain ⟨t2, ht2⟩ : ∃ t2, t2 = tt + m.length := ⟨_, rfl⟩
      have ht2i : (tt : Int) + (m.length : Int) = (t2 : Int) := by omega
      have ht2l : t2 = (cur ++ m).length := by rw [ht2, HTT.out, ← HCUR.out, List.length_append]
      have hbig : (tt : Int) + (m.length : Int) < 1099511627776 := by have := HFL.out; have := HTT.out; rw [← HCUR.out] at this; omega
      have htc : t2 ≤ c1 := by rw [ht2l, List.length_append]; exact Nat.le_trans HFL.out HLC.out
      obtain ⟨A2, hA2, hsl⟩ := slice_to (P := Try.prog) (T := 23) (by kernel_rfl) (by kernel_rfl) a1 N c1 t2 _ htc HLI.out
      have hat : ls.flatten.take t2 = cur ++ m := by rw [ht2l, ← HNX.out]; exact flat_take ls (k + 1)
      rw [hat] at hA2
      have hpv : PartV w1 w1.heap.size (.slice A2 t2 c1) (cur ++ m) := ⟨A2, c1, by rw [ht2l], by rw [← ht2l]; exact htc, hA2⟩
      have HPV := Lib.hid hpv
      have HT2 := Lib.hid ht2l
      obtain ⟨F, hFV, hF, hFl, hF1⟩ := shaV_list (cur ++ m)
      have heF : ∀ W : World, (Op.equalIn 10000 27 (.agg F.toArray) (.agg F.toArray)).run Try.prog W = .ok true W := fun W => by
        rw [hF, eq_bytes Try.underlying27 Try.underlying5 (zero_of_info3 Try.infoByte) _ _ (sha_len (cur ++ m)) (sha_len (cur ++ m)) W]
        simp
      have HFV := Lib.hid hFV
      have HCL : Hid ((cur ++ m).length < 4294967296) := Lib.hid (by rw [List.length_append]; have := HFL.out; omega)
      have HKG := Lib.hid hg6
      have HCW : Hid ((w6.alloc (.cells #[.slice A2 t2 c1] 23)).cell? ⟨w6.heap.size, 0, none⟩ = some (.slice A2 t2 c1)) := Lib.hid (alloc_cell w6 _ _ _ 0)
      clear hd6 hs6 hb56 hcell5 ht2 ht2l htc hA2 hat hpv hFV hF hFl hF1 HWR2 HD5 HB15 hg6
      go_wp2_with fail
      go_region_held3 (fun W => GoesAt w1 gd gz (cur ++ m) W)
        (first
          | assumption
          | exact GoesAt.next HKG.out (below_draws (Below.refl _ _) ⟨1, rfl⟩)
          | exact GoesAt.next (by assumption) hb
          | exact GoesAt.more (by assumption) _)
        (first
          | (go_at_call 18; refine (dsum_any gd gd (cur ++ m) _ (GoesAt.dig (by assumption)) HCL.out).mono ?_; rintro e w' ⟨rfl, hb⟩; rw [HFV.out])
          | (go_at_call 10; refine (sum_one (cur ++ m) _ _ ?_ HCL.out).mono ?_; (first | exact parts_now _ _ _ _ (GoesAt.part (by assumption) HPV.out) | exact parts_then hb HCW.out (GoesAt.part (by assumption) HPV.out) | (trace_state; fail)); rw [HFV.out]; rintro e w' ⟨rfl, hb⟩))
      all_goals
        go_wp2_with fail
        go_roundw
        case rel =>
          have hk := HKL.out
          refine ⟨k + 1, t2, by omega, by go_num, rfl, Lib.hid (by rw [HNX.out]; exact HT2.out), Lib.hid ?_⟩
          rw [HNX.out]
          assumption
        case measure => have hk := HKL.out; simp [intOf]; omega
    · have hkn : k = ls.length := by have := HNN.out; omega
      have hg := HG.out
      rw [hkn, List.take_length] at hg
      obtain ⟨all, hall⟩ : ∃ all, all = ls.flatten := ⟨_, rfl⟩
      rw [← hall] at hg
      have hpv : PartV w1 w1.heap.size (.slice a1 N c1) all := ⟨a1, c1, by rw [hall, HN.out], by rw [hall, ← HN.out]; exact HLC.out, by rw [hall]; exact HLI.out⟩
      have HPV := Lib.hid hpv
      have HAL : Hid (all.length < 4294967296) := Lib.hid (by rw [hall, ← HN.out]; omega)
      have HG4 := Lib.hid hg
      obtain ⟨F, hFV, hF, hFl, hF1⟩ := shaV_list all
      have heF : ∀ W : World, (Op.equalIn 10000 27 (.agg F.toArray) (.agg F.toArray)).run Try.prog W = .ok true W := fun W => by
        rw [hF, eq_bytes Try.underlying27 Try.underlying5 (zero_of_info3 Try.infoByte) _ _ (sha_len all) (sha_len all) W]
        simp
      obtain ⟨E, hEV, hE, hEl, hE1⟩ := shaV_list []
      have heE : ∀ W : World, (Op.equalIn 10000 27 (.agg E.toArray) (.agg E.toArray)).run Try.prog W = .ok true W := fun W => by
        rw [hE, eq_bytes Try.underlying27 Try.underlying5 (zero_of_info3 Try.infoByte) _ _ (sha_len []) (sha_len []) W]
        simp
      have HFV := Lib.hid hFV
      have HEV := Lib.hid hEV
      clear hkn hg hall hpv hFV hF hFl hF1 hEV hE hEl hE1 hk HG HTT
      go_wp2_with fail
      refine (write_nil _ _ _ _).mono ?_
      rintro e w5 ⟨rfl, rfl⟩
      go_wp2_with fail
      refine (dsum_any gz gz all _ HG4.out.2.1 HAL.out).mono ?_
      rw [HFV.out]
      rintro e w5 ⟨rfl, hb5⟩
      have HG5 := Lib.hid (HG4.out.next hb5)
      clear hb5 HG4
      go_wp2_with fail
      refine (sum_one all _ _ (parts1 _ _ _ _ (HG5.out.part HPV.out)) HAL.out).mono ?_
      rw [HFV.out]
      rintro e w6 ⟨rfl, hb6⟩
      have HG6 := Lib.hid ((HG5.out.more _).next hb6)
      clear hb6 HG5
      go_wp2_with fail
      refine (dsum_nil _).mono ?_
      rw [HEV.out]
      rintro e w7 ⟨rfl, hb7⟩
      have HG7 := Lib.hid (HG6.out.next hb7)
      clear hb7 HG6
      go_wp2_with fail
      refine (sum_any [] _ _ (parts_nil _ _ _) (by simp) (by simp)).mono ?_
      rw [show ([] : List (List UInt8)).flatten = [] from rfl, HEV.out]
      rintro e w8 ⟨rfl, hb8⟩
      have HG8 := Lib.hid (HG7.out.next hb8)
      clear hb8 HG7
      go_wp2_with fail
      refine (awake_any _).mono ?_
      rintro e w9 ⟨rfl, hb9⟩
      have HG9 := Lib.hid (HG8.out.next hb9)
      clear hb9 HG8
      go_wp2
      go_ret
      exact ⟨rfl, HB1.out.trans (HG9.out.2.2.mono HB1.out.size)⟩

theorem shaGoes_own : ownKnob Try.prog.godebug = none := by kernel_rfl

theorem shaGoes_contract (H : Type) (enc : TypeId × Value → H) (W : World) (base : Nat) (args : Array Value) (ds gs : List (DataW H)) (before : List MemPlace)
    (hval0 : ∀ (j : Nat) t v, Try.f5.params[j]? = some t → args[j]? = some v → Value.okWide Try.prog W .any base t v)
    (hW : DataW.Whole enc Try.prog Try.f5.params.toList Rows.shaGoesSpec.vars false W args.toList ds gs before) {vt : List TypeId} (hk : Rows.uptoSmall H (ds ++ gs) = true)
    (hsz0 : (DataW.weightsEach Try.prog (Try.f5.params.toList ++ vt) (ds ++ gs)).all (· ≤ reachBytes) = true) :
    Calls Try.prog 5 args W fun e W' => ∃ v, e = .returned v ∧ Rows.shaGoesSpec.post enc Try.prog Try.f5 false true false false W args v W' := by
  refine law_contract (by kernel_rfl) (of_decide_eq_true (by kernel_rfl)) (tb := 4) (by kernel_rfl) Try.underlying4 rfl (fun ds h => by match ds, h with | [d0], _ => exact ⟨rfl, rfl, rfl⟩) hW hsz0 ?_
  intro p hA0 hlt hszz
  have hval := hval0
  have hA : DataW.TrodAll enc Try.prog W 0 (fun _ => true) true Try.f5.params.toList args.toList ds p := hA0
  have hsz : (DataW.weightsEach Try.prog Try.f5.params.toList ds).all (· ≤ reachBytes) = true := hszz
  clear hval0 hA0 hszz hsz0 hW
  rw [Try.params5] at hA hval hsz
  obtain ⟨v0, vs0, d0, ds0, p0, q0, hargs, rfl, rfl, h0, r0⟩ := trodAll_cons hA
  obtain ⟨rfl, rfl, rfl⟩ := trodAll_nil r0
  obtain rfl : args = #[v0] := by cases args; simp_all
  have hbk : Rows.uptoBulkAll ([d0] ++ gs) ≤ 1048576 := of_decide_eq_true hk
  simp only [List.cons_append, List.nil_append, Rows.uptoBulkAll] at hbk
  obtain ⟨a0, g0, z0, y0⟩ := open_parts Try.underlying22 Try.underlying23 Try.underlying5 (by kernel_rfl) (by kernel_rfl) (hval 0 22 v0 rfl rfl) h0
  exact shaGoes_any (w := W) v0 a0 g0 (by omega) (by omega)

set_option maxRecDepth 100000 in
theorem shaGoes_lifted (os : Os) (started : os.Started) (H : Type) (enc : TypeId × Value → H) (F : Stop.Interp) :
    ReturnsInHanded {} Try.checked os 5 .any ((Rows.OpenSpec.upto Rows.shaGoesSpec).pre6 enc Try.prog Try.f5 Rows.shaGoesUptoRow.domain false) (((Rows.OpenSpec.upto Rows.shaGoesSpec).at F).post enc Try.prog Try.f5 false true false false) := by
  refine returnsInHanded_of_cond_sized (C := Try.checked) (s := Rows.OpenSpec.upto Rows.shaGoesSpec) (k := Rows.uptoSmall) rfl shaGoes_own started (by kernel_rfl) Try.func5
    (OpenSpec.witness (enc := enc) (C := Try.checked) (s := Rows.OpenSpec.upto Rows.shaGoesSpec) (k := Rows.uptoSmall) rfl false ⟨#[], #[.slice none 0 0], []⟩ 8 (by kernel_rfl) (by kernel_rfl) (by kernel_rfl)
      (x := ([.nil], [], [])) (by kernel_rfl) rfl (by kernel_rfl)) ?_
  intro W base args ds gs before hval hW _ hk hsz _
  exact shaGoes_contract H enc W base args ds gs before hval hW hk hsz

theorem shaGoes_proved : Rows.ShaGoesUptoSaid :=
  OpenClaim.holds_of_cond 5 Try.f5 rfl rfl rfl rfl rfl rfl rfl ⟨rfl, rfl, rfl, rfl, rfl⟩ rfl rfl rfl rfl rfl (by kernel_rfl) Try.func5 (by kernel_rfl)
    (of_decide_eq_true (by kernel_rfl)) (by unfold Func.isWrapper; first | (rw [if_pos (by decide +kernel)]; kernel_rfl) | (rw [if_neg (by decide +kernel)]; exact ⟨rfl, rfl⟩))
    (fun os started H enc _ F => shaGoes_lifted os started H enc F)
#print axioms shaGoes_proved

end Go.Proofs.Ytcpioladmcidcaa
