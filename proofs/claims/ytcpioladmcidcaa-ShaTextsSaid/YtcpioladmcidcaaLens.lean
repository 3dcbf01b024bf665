/-
  ShaLengths: for all lengths and every byte, bytes of one kind have the sum of their length, in whatever order they are put together; the law returns true. No condition.
-/
import Derived.Deep.RegionHeld3
import Derived.Test.YtcpioladmcidcaaProg
import Derived.Test.YtcpioladmcidcaaKit
import Derived.Test.YtcpioladmcidcaaLaw
import Derived.Test.YtcpioladmcidcaaInfo
import Derived.Test.YtcpioladmcidcaaRow
import Derived.Test.YtcpioladmcidcaaCod7
import Derived.Test.YtcpioladmcidcaaCod8
import Derived.Test.YtcpioladmcidcaaCod9
import Derived.Test.YtcpioladmcidcaaLaw2
import Derived.Test.YtcpioladmcidcaaOwn
import Derived.Test.YtcpioladmcidcaaRef2
namespace Go.Proofs.Ytcpioladmcidcaa
open Go.ChangeShapes Go.WideShapes Go.ChangeAt Go.RowKit Go.Proofs

theorem own_apart {w : World} {base : Nat} {e : TypeId} {size g n cap : Nat} {xs : List Value} (h : w.ownsRow base e size (.slice (some ⟨g, 0, none⟩) n cap) n xs) {g' : Nat} (hg : g' ≠ g) (j : Nat) (u : Value) : (w.setCell ⟨g', j, none⟩ u).ownsRow base e size (.slice (some ⟨g, 0, none⟩) n cap) n xs := by
  refine ⟨h.1, ?_⟩
  rcases h.2 with ⟨h, _⟩ | ⟨gm, cap', cur, hv, hb, hh, r⟩
  · cases h
  · injection hv with q1 q2 q3
    injection q1 with q1
    injection q1 with q1
    subst q1
    refine .inr ⟨g, cap', cur, by rw [q3], hb, ?_, r⟩
    simp only [World.setCell, Array.getElem?_modify]
    rw [if_neg hg]
    exact hh

theorem parts1 (W : World) (v : Value) (l : List UInt8) (e : TypeId) (h : PartV W W.heap.size v l) : PartsAt (W.alloc (.cells #[v] e)) (W.alloc (.cells #[v] e)).heap.size (.slice (some ⟨W.heap.size, 0, none⟩) 1 1) [l] :=
  parts_alloc W #[v] e (0, 0) [l] (fun j m hj => by
    match j, hj with
    | 0, hj => cases hj; exact ⟨v, rfl, h⟩) 1

theorem parts2 (W : World) (v v' : Value) (l l' : List UInt8) (e : TypeId) (h : PartV W W.heap.size v l) (h' : PartV W W.heap.size v' l') : PartsAt (W.alloc (.cells #[v, v'] e)) (W.alloc (.cells #[v, v'] e)).heap.size (.slice (some ⟨W.heap.size, 0, none⟩) 2 2) [l, l'] :=
  parts_alloc W #[v, v'] e (0, 0) [l, l'] (fun j m hj => by
    match j, hj with
    | 0, hj => cases hj; exact ⟨v, rfl, h⟩
    | 1, hj => cases hj; exact ⟨v', rfl, h'⟩) 2

theorem flat2 (l m : List UInt8) : [l, m].flatten = l ++ m := by simp

theorem fill_set (c : UInt8) {n k : Nat} (h : k < n) : ((List.replicate k c ++ List.replicate (n - k) 0).map byteV).set k (byteV c) = (List.replicate (k + 1) c ++ List.replicate (n - (k + 1)) 0).map byteV := by
  rw [← List.map_set, show n - k = (n - (k + 1)) + 1 from by omega, List.replicate_succ, List.set_append_right _ _ (by simp), List.length_replicate, Nat.sub_self, List.replicate_succ']
  simp

theorem ByteSl.more {w : World} {B B' : Nat} {v : Value} {l : List UInt8} (h : ByteSl w B v l) (hB : B ≤ B') : ByteSl w B' v l := by
  rcases h with h | ⟨ad, c, hv, hc, hl⟩
  · exact .inl h
  · exact .inr ⟨ad, c, hv, hc, hl.more hB⟩

/-- What stands once the two rows are filled. -/
def TwoAt (w0 : World) (va vb : Value) (la lb : List UInt8) (W : World) : Prop := Below w0.heap.size w0 W ∧ PartV W W.heap.size va la ∧ PartV W W.heap.size vb lb

theorem TwoAt.next {w0 W W' : World} {va vb : Value} {la lb : List UInt8} (h : TwoAt w0 va vb la lb W) (hb : Below W.heap.size W W') : TwoAt w0 va vb la lb W' :=
  ⟨below_then h.1 hb, h.2.1.later hb hb.size, h.2.2.later hb hb.size⟩

theorem TwoAt.more {w0 W : World} {va vb : Value} {la lb : List UInt8} (h : TwoAt w0 va vb la lb W) (o : Obj) : TwoAt w0 va vb la lb (W.alloc o) := h.next (below_more (Below.refl _ _) o)

set_option maxRecDepth 100000 in
set_option maxHeartbeats 2000000 in
theorem shaLengths_any (n : Int) (hn : -9223372036854775808 ≤ n ∧ n ≤ 9223372036854775807) (m : Int) (hm : -9223372036854775808 ≤ m ∧ m ≤ 9223372036854775807) (c : UInt8) (w : World) :
    Calls Try.prog 6 #[.int .i64 n, .int .i64 m, .int .u8 (c.toNat : Int)] w fun e w' => e = .returned (.bool true) ∧ Below w.heap.size w w' := by
  have HN := Lib.hid hn
  have HM := Lib.hid hm
  clear hn hm
  by_cases h1 : n < 0
  · go_enter Try.func6, Try.ntmps6
    go_wp2_with fail
    refine (awake_any _).mono ?_
    rintro e w' ⟨rfl, hb1⟩
    have HB := Lib.hid hb1
    clear hb1
    go_wp2
    go_ret
    exact ⟨rfl, HB.out⟩
  by_cases h2 : 700 < n
  · go_enter Try.func6, Try.ntmps6
    go_wp2_with fail
    refine (awake_any _).mono ?_
    rintro e w' ⟨rfl, hb1⟩
    have HB := Lib.hid hb1
    clear hb1
    go_wp2
    go_ret
    exact ⟨rfl, HB.out⟩
  by_cases h3 : m < 0
  · go_enter Try.func6, Try.ntmps6
    go_wp2_with fail
    refine (awake_any _).mono ?_
    rintro e w' ⟨rfl, hb1⟩
    have HB := Lib.hid hb1
    clear hb1
    go_wp2
    go_ret
    exact ⟨rfl, HB.out⟩
  by_cases h4 : 700 < m
  · go_enter Try.func6, Try.ntmps6
    go_wp2_with fail
    refine (awake_any _).mono ?_
    rintro e w' ⟨rfl, hb1⟩
    have HB := Lib.hid hb1
    clear hb1
    go_wp2
    go_ret
    exact ⟨rfl, HB.out⟩
  obtain ⟨a, rfl⟩ : ∃ a : Nat, n = (a : Int) := ⟨n.toNat, by omega⟩
  obtain ⟨b, rfl⟩ : ∃ b : Nat, m = (b : Int) := ⟨m.toNat, by omega⟩
  obtain ⟨i0, hi, hz0, hz1, hz2⟩ := info_parts Try.infoByte
  have ha7 : (a : Int) ≤ 700 := by omega
  have hb7 : (b : Int) ≤ 700 := by omega
  clear h1 h3
  go_enter Try.func6, Try.ntmps6
  go_wp2_with (first | (refine wpList_make1 w rfl _ _ 23 rfl 5 i0 (.int .u8 0) 1 Try.underlying23 hi hz0 hz1 hz2 rfl .i64 .i64 _ _ a rfl rfl rfl rfl (by omega) (by decide) ?_; intro w1 hown1 hb1) | (refine wpList_make1 w1 rfl _ _ 23 rfl 5 i0 (.int .u8 0) 1 Try.underlying23 hi hz0 hz1 hz2 rfl .i64 .i64 _ _ b rfl rfl rfl rfl (by omega) (by decide) ?_; intro w2 hown2 hb2))
  obtain ⟨ga, hga⟩ : ∃ ga, ga = w.heap.size := ⟨_, rfl⟩
  obtain ⟨gb, hgb⟩ : ∃ gb, gb = w1.heap.size := ⟨_, rfl⟩
  have hoa : w2.ownsRow w.heap.size 5 1 (.slice (some ⟨ga, 0, none⟩) a a) a ((List.replicate 0 c ++ List.replicate (a - 0) 0).map byteV) := by
    have h := own_below hown1 hb2
    rw [hga]
    simpa [byteV] using h
  have hob : w2.ownsRow w1.heap.size 5 1 (.slice (some ⟨gb, 0, none⟩) b b) b ((List.replicate 0 c ++ List.replicate (b - 0) 0).map byteV) := by
    rw [hgb]
    simpa [byteV] using hown2
  have HOA := Lib.hid hoa
  have HOB := Lib.hid hob
  have HW2 := Lib.hid (below_then hb1 hb2)
  have HGA : Hid (ga = w.heap.size) := Lib.hid hga
  have HGB : Hid (w.heap.size ≤ gb ∧ gb ≠ ga) := Lib.hid (by
    refine ⟨by rw [hgb]; exact hb1.size, ?_⟩
    rw [hgb, hga]
    rcases hown1.2 with ⟨h, _⟩ | ⟨g, _, _, h, _, hh, _⟩
    · cases h
    · injection h with h _ _
      injection h with h
      injection h with h
      subst h
      intro e
      rw [← e, Array.getElem?_eq_none (Nat.le_refl _)] at hh
      cases hh)
  simp only [← hga, ← hgb]
  rw [← hgb] at HOB
  clear hoa hob hown1 hown2 hb1 hb2 hga hgb h2 h4
  go_loopw [9] (fun i wr => ∃ k : Nat, k ≤ a ∧ i = .int .i64 k ∧ Hid (wr.ownsRow w.heap.size 5 1 (.slice (some ⟨ga, 0, none⟩) a a) a ((List.replicate k c ++ List.replicate (a - k) 0).map byteV)) ∧ Hid (wr.ownsRow gb 5 1 (.slice (some ⟨gb, 0, none⟩) b b) b ((List.replicate 0 c ++ List.replicate (b - 0) 0).map byteV)) ∧ Hid (Below w.heap.size w wr)) (fun i _ => a - (intOf i).toNat)
  case atStart => exact ⟨0, Nat.zero_le _, rfl, HOA, HOB, HW2⟩
  case round =>
    clear HOA HOB HW2
    obtain ⟨k, hk, rfl, HOA, HOB, HW⟩ := hrel
    obtain ⟨w3, hw3⟩ : ∃ w3 : World, w3 = wr := ⟨_, rfl⟩
    subst hw3
    by_cases hlt : k < a
    · have hc0 : w3.cell? ⟨ga, k, none⟩ = some (.int .u8 0) := (HOA.out.cellAt k (by omega)).trans (by
        rw [List.getElem?_map, List.getElem?_append_right (by simp), List.getElem?_replicate, if_pos (by simp; omega)]
        rfl)
      have hf0 := HOA.out.frozenAt k
      have hy : (k : Int) < (a : Int) := by omega
      have HKL := Lib.hid hlt
      clear hk
      go_wp2
      go_roundw
      case rel =>
        have hk := HKL.out
        have hne := HGB.out.2
        refine ⟨k + 1, by omega, by go_num, Lib.hid ?_, Lib.hid (own_apart HOB.out (fun e => hne e.symm) _ _), Lib.hid (HW.out.setCell (by show _ ≤ ga; rw [HGA.out]; exact Nat.le_refl _) _)⟩
        have h := (HOA.out.stored k (byteV c)).1
        rw [fill_set c hk] at h
        exact h
      case measure => have := HKL.out; simp [intOf]; omega
    · have hka : k = a := by omega
      have hoa := HOA.out
      rw [hka, Nat.sub_self, List.replicate_zero, List.append_nil] at hoa
      have HOA2 := Lib.hid hoa
      clear hka hoa hk HOA
      go_wp2
      go_loopw [10] (fun i wr => ∃ k : Nat, k ≤ b ∧ i = .int .i64 k ∧ Hid (wr.ownsRow w.heap.size 5 1 (.slice (some ⟨ga, 0, none⟩) a a) a ((List.replicate a c).map byteV)) ∧ Hid (wr.ownsRow gb 5 1 (.slice (some ⟨gb, 0, none⟩) b b) b ((List.replicate k c ++ List.replicate (b - k) 0).map byteV)) ∧ Hid (Below w.heap.size w wr)) (fun i _ => b - (intOf i).toNat)
      case atStart => exact ⟨0, Nat.zero_le _, rfl, HOA2, HOB, HW⟩
      case round =>
        clear HOA2 HOB HW hlt
        obtain ⟨k, hk, rfl, HOA, HOB, HW⟩ := hrel
        obtain ⟨w4, hw4⟩ : ∃ w4 : World, w4 = wr := ⟨_, rfl⟩
        subst hw4
        by_cases hlt : k < b
        · have hc0 : w4.cell? ⟨gb, k, none⟩ = some (.int .u8 0) := (HOB.out.cellAt k (by omega)).trans (by
            rw [List.getElem?_map, List.getElem?_append_right (by simp), List.getElem?_replicate, if_pos (by simp; omega)]
            rfl)
          have hf0 := HOB.out.frozenAt k
          have hy : (k : Int) < (b : Int) := by omega
          have HKL := Lib.hid hlt
          clear hk
          go_wp2
          go_roundw
          case rel =>
            have hk := HKL.out
            have hne := HGB.out.2
            refine ⟨k + 1, by omega, by go_num, Lib.hid (own_apart HOA.out hne _ _), Lib.hid ?_, Lib.hid (HW.out.setCell (by show _ ≤ gb; exact HGB.out.1) _)⟩
            have h := (HOB.out.stored k (byteV c)).1
            rw [fill_set c hk] at h
            exact h
          case measure => have := HKL.out; simp [intOf]; omega
        · have hkb : k = b := by omega
          have hob := HOB.out
          rw [hkb, Nat.sub_self, List.replicate_zero, List.append_nil] at hob
          obtain ⟨la, hla⟩ : ∃ la, la = List.replicate a c := ⟨_, rfl⟩
          obtain ⟨lb, hlb⟩ : ∃ lb, lb = List.replicate b c := ⟨_, rfl⟩
          have hoa := HOA.out
          rw [← hla] at hoa
          rw [← hlb] at hob
          have hall : la.length = a := by rw [hla]; simp
          have hbll : lb.length = b := by rw [hlb]; simp
          have hcomm : la ++ lb = lb ++ la := by rw [hla, hlb, List.replicate_append_replicate, List.replicate_append_replicate, Nat.add_comm]
          have htwo : TwoAt w (.slice (some ⟨ga, 0, none⟩) a a) (.slice (some ⟨gb, 0, none⟩) b b) la lb w4 := ⟨HW.out, (own_sl hoa).part, (own_sl hob).part⟩
          have HTW := Lib.hid htwo
          have HBA : Hid (ByteSl w4 w4.heap.size (.slice (some ⟨ga, 0, none⟩) a a) la) := Lib.hid (own_sl hoa)
          have HAL : Hid (la.length < 4294967296) := Lib.hid (by rw [hall]; omega)
          have HAB : Hid (la.length + lb.length < 4294967296) := Lib.hid (by rw [hall, hbll]; omega)
          have HBL : Hid (lb.length < 4294967296) := Lib.hid (by rw [hbll]; omega)
          have HSAME : Hid (a = b → la = lb) := Lib.hid (by rw [hla, hlb]; intro e; rw [e])
          have HCOMM := Lib.hid hcomm
          obtain ⟨F, hFV, hF, hFl, hF1⟩ := shaV_list la
          obtain ⟨G, hGV, hG, hGl, hG1⟩ := shaV_list (la ++ lb)
          have heF : ∀ W : World, (Op.equalIn 10000 27 (.agg F.toArray) (.agg F.toArray)).run Try.prog W = .ok true W := fun W => by
            rw [hF, eq_bytes Try.underlying27 Try.underlying5 (zero_of_info3 Try.infoByte) _ _ (sha_len la) (sha_len la) W]
            simp
          have heG : ∀ W : World, (Op.equalIn 10000 27 (.agg G.toArray) (.agg G.toArray)).run Try.prog W = .ok true W := fun W => by
            rw [hG, eq_bytes Try.underlying27 Try.underlying5 (zero_of_info3 Try.infoByte) _ _ (sha_len (la ++ lb)) (sha_len (la ++ lb)) W]
            simp
          have HFV := Lib.hid hFV
          have HGV := Lib.hid hGV
          clear hkb hob hoa hla hlb hall hbll hcomm htwo hFV hF hFl hF1 hGV hG hGl hG1 hk HOA HOB HW
          go_wp2_with fail
          refine (sum_any [la] _ _ (parts1 _ _ _ _ HTW.out.2.1) (by rw [List.flatten_singleton]; exact HAL.out) (by simp)).mono ?_
          rw [List.flatten_singleton, HFV.out]
          rintro e w5 ⟨rfl, hb5⟩
          have HT5 := Lib.hid ((HTW.out.more _).next hb5)
          have HB5 := Lib.hid (HBA.out.keep (below_then (below_more (Below.refl _ _) _) hb5) (Nat.le_refl _))
          have HG45 : Hid (w4.heap.size ≤ w5.heap.size) := Lib.hid (Nat.le_trans (by simp) hb5.size)
          clear hb5
          go_wp2_with fail
          refine (refsum_any _ la w5 (HB5.out.more HG45.out) HAL.out).mono ?_
          rw [HFV.out]
          rintro e w6 ⟨rfl, hb6⟩
          have HT6 := Lib.hid (HT5.out.next hb6)
          clear hb6 HT5 HB5 HBA HTW
          go_wp2_with fail
          refine (sum_any [la, lb] _ _ (parts2 _ _ _ _ _ _ HT6.out.2.1 HT6.out.2.2) (by rw [flat2, List.length_append]; exact HAB.out) (by simp)).mono ?_
          rw [flat2, HGV.out]
          rintro e w7 ⟨rfl, hb7⟩
          have HT7 := Lib.hid ((HT6.out.more _).next hb7)
          clear hb7 HT6
          go_wp2_with fail
          refine (sum_any [lb, la] _ _ (parts2 _ _ _ _ _ _ HT7.out.2.2 HT7.out.2.1) (by rw [flat2, List.length_append, Nat.add_comm]; exact HAB.out) (by simp)).mono ?_
          rw [flat2, ← HCOMM.out, HGV.out]
          rintro e w8 ⟨rfl, hb8⟩
          have HT8 := Lib.hid ((HT7.out.more _).next hb8)
          clear hb8 HT7
          by_cases hab : a = b
          · have hlab := HSAME.out hab
            have hq1 : ((a : Int) != (b : Int)) = false := by rw [bne_eq_false_iff_eq, hab]
            have hq2 : (a != b) = false := by rw [bne_eq_false_iff_eq]; exact hab
            have HLAB := Lib.hid hlab
            clear hab hlab
            go_wp2_with fail
            refine (sum_any [la] _ _ (parts1 _ _ _ _ HT8.out.2.1) (by rw [List.flatten_singleton]; exact HAL.out) (by simp)).mono ?_
            rw [List.flatten_singleton, HFV.out]
            rintro e w9 ⟨rfl, hb9⟩
            have HT9 := Lib.hid ((HT8.out.more _).next hb9)
            clear hb9 HT8
            go_wp2_with fail
            refine (sum_any [lb] _ _ (parts1 _ _ _ _ HT9.out.2.2) (by rw [List.flatten_singleton]; exact HBL.out) (by simp)).mono ?_
            rw [List.flatten_singleton, ← HLAB.out, HFV.out]
            rintro e w10 ⟨rfl, hb10⟩
            have HT10 := Lib.hid ((HT9.out.more _).next hb10)
            clear hb10 HT9
            go_wp2_with fail
            refine (awake_any _).mono ?_
            rintro e w11 ⟨rfl, hb11⟩
            have HT11 := Lib.hid (HT10.out.next hb11)
            clear hb11 HT10
            go_wp2
            go_ret
            exact ⟨rfl, HT11.out.1⟩
          · have hq1 : ((a : Int) != (b : Int)) = true := by rw [bne_iff_ne]; omega
            have hq2 : (a != b) = true := by rw [bne_iff_ne]; exact hab
            clear hab
            go_wp2_with fail
            refine (awake_any _).mono ?_
            rintro e w11 ⟨rfl, hb11⟩
            have HT11 := Lib.hid (HT8.out.next hb11)
            clear hb11 HT8
            go_wp2
            go_ret
            exact ⟨rfl, HT11.out.1⟩

theorem shaLengths_own : ownKnob Try.prog.godebug = none := by kernel_rfl

set_option maxRecDepth 100000 in
theorem shaLengths_lifted (os : Os) (started : os.Started) (H : Type) (enc : TypeId × Value → H) :
    ReturnsInHanded {} Try.checked os 6 .any (Rows.shaLengthsSpec.pre6 enc Try.prog Try.f6 Rows.shaLengthsRow.domain false) (Rows.shaLengthsSpec.post enc Try.prog Try.f6 false true false false) := by
  refine law_lifted (C := Try.checked) shaLengths_own started (by kernel_rfl) Try.func6
    (ChangeSpec.witness6 (enc := enc) (C := Try.checked) false ⟨#[], #[.int .i64 0, .int .i64 0, .int .u8 0], []⟩ 8 (by kernel_rfl) (by kernel_rfl) (by kernel_rfl) (by kernel_rfl))
    (by kernel_rfl) (of_decide_eq_true (by kernel_rfl)) (tb := 4) (by kernel_rfl) Try.underlying4 rfl (fun ds h => by match ds, h with | [d0, d1, d2], _ => exact ⟨rfl, rfl, rfl⟩) ?_
  intro W base args ds p hval0 hA0 hlt hsz0
  have hval : ∀ (j : Nat) t v, Try.f6.params[j]? = some t → args[j]? = some v → Value.okWide Try.prog W .any base t v := hval0
  have hA : DataW.TrodAll enc Try.prog W 0 (fun _ => true) true Try.f6.params.toList args.toList ds p := hA0
  have hsz : (DataW.weightsEach Try.prog Try.f6.params.toList ds).all (· ≤ reachBytes) = true := hsz0
  rw [Try.params6] at hA hval hsz
  obtain ⟨v0, vs0, d0, ds0, p0, q0, hargs, rfl, rfl, h0, r0⟩ := trodAll_cons hA
  obtain ⟨v1, vs1, d1, ds1, p1, q1, rfl, rfl, rfl, h1, r1⟩ := trodAll_cons r0
  obtain ⟨v2, vs2, d2, ds2, p2, q2, rfl, rfl, rfl, h2, r2⟩ := trodAll_cons r1
  obtain ⟨rfl, rfl, rfl⟩ := trodAll_nil r2
  obtain rfl : args = #[v0, v1, v2] := by cases args; simp_all
  obtain ⟨a0, rfl, rfl, rfl, w0⟩ := open_int Try.underlying3 (hval 0 3 v0 rfl rfl) h0
  obtain ⟨a1, rfl, rfl, rfl, w1⟩ := open_int Try.underlying3 (hval 1 3 v1 rfl rfl) h1
  obtain ⟨a2, rfl, rfl, rfl, w2⟩ := open_int Try.underlying5 (hval 2 5 v2 rfl rfl) h2
  obtain ⟨c2, rfl⟩ := byte_of_num w2
  exact shaLengths_any (w := W) a0 (bounds_i64 w0) a1 (bounds_i64 w1) c2

theorem shaLengths_over : Rows.shaLengthsRow.holds Try.pinned (OpenSpec.ofChange Rows.shaLengthsSpec) :=
  OpenClaim.holds_of_wide 6 Try.f6 rfl rfl rfl rfl rfl rfl rfl ⟨rfl, rfl, rfl, rfl, rfl⟩ rfl rfl rfl rfl rfl (by kernel_rfl) Try.func6 (by kernel_rfl)
    (of_decide_eq_true (by kernel_rfl)) (by unfold Func.isWrapper; first | (rw [if_pos (by decide +kernel)]; kernel_rfl) | (rw [if_neg (by decide +kernel)]; exact ⟨rfl, rfl⟩))
    (fun os started H enc _ => shaLengths_lifted os started H enc)

theorem shaLengths_proved : Rows.ShaLengthsSaid := shaLengths_over
#print axioms shaLengths_proved

end Go.Proofs.Ytcpioladmcidcaa
