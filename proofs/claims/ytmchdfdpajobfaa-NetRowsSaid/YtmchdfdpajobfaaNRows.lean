/-
  NetRows: for every two numbers, packets delivered from the front come in the order in which they were sent, and one that is doubled comes once more, behind all; the law returns true, and what was there has not turned. No condition.
-/
import Derived.BigRegion
import Derived.Deep.RegionHeld3
import Derived.Test.YtmchdfdpajobfaaProg
import Derived.Test.YtmchdfdpajobfaaKit
import Derived.Test.YtmchdfdpajobfaaLaw
import Derived.Test.YtmchdfdpajobfaaRow
import Derived.Test.YtmchdfdpajobfaaCod7
import Derived.Test.YtmchdfdpajobfaaFrm4
import Derived.Test.YtmchdfdpajobfaaFrm11
import Derived.Test.YtmchdfdpajobfaaNet0
import Derived.Test.YtmchdfdpajobfaaNet1
import Derived.Test.YtmchdfdpajobfaaNet4
import Derived.Test.YtmchdfdpajobfaaNet12
import Derived.Test.YtmchdfdpajobfaaNet13
namespace Go.Proofs.Ytmchdfdpajobfaa
open Go.ChangeShapes Go.WideShapes Go.ChangeAt Go.RowKit Go.Proofs
open Go.ChangeMaps (open_string shut_string)

def pkR (i : Nat) : PkM := ⟨2, 1, [UInt8.ofNat i]⟩

theorem sendM_one {ps : List PkM} {p : PkM} (h : ps.length < 64) (ht : travB p = true) : sendM ps [p] = (1, ps ++ [p]) := by
  unfold sendM
  rw [decide_eq_true h, ht]
  rfl

theorem range_pk (n : Nat) (f : Nat → PkM) : ((List.range n).map f).length = n := by simp

theorem range_next (n : Nat) (f : Nat → PkM) : (List.range n).map f ++ [f n] = (List.range (n + 1)).map f := by rw [List.range_succ, List.map_append]; rfl

theorem drop_head {α : Type} {l : List α} {i : Nat} {x : α} (h : l[i]? = some x) : (l.drop i)[0]? = some x ∧ (l.drop i).eraseIdx 0 = l.drop (i + 1) := by
  refine ⟨by rw [List.getElem?_drop, Nat.add_zero]; exact h, ?_⟩
  have hl := (List.getElem?_eq_some_iff.1 h).1
  rw [List.drop_eq_getElem_cons hl]
  rfl

theorem own_byte {w : World} {a : Option Addr} {c : Nat} {x : UInt8} (h : w.ownsRow 0 5 1 (.slice a 1 c) 1 [byteV x]) : ∃ gb, a = some ⟨gb, 0, none⟩ ∧ w.cell? ⟨gb, 0, none⟩ = some (.int .u8 x.toNat) := by
  obtain ⟨gb, c', hv, _⟩ := own_some h (by decide)
  injection hv with h1 h2 h3
  subst h1
  exact ⟨gb, rfl, World.ownsRow.cellAt h 0 (by decide)⟩

set_option maxRecDepth 100000 in
set_option maxHeartbeats 2000000 in
theorem netRows_any (n : Int) (hn : -9223372036854775808 ≤ n ∧ n ≤ 9223372036854775807) (k : Int) (hk : -9223372036854775808 ≤ k ∧ k ≤ 9223372036854775807) (w : World) :
    Calls Try.prog 11 #[.int .i64 n, .int .i64 k] w fun e w' => e = .returned (.bool true) ∧ Below w.heap.size w w' := by
  have HAW := Lib.hid (nawake_any w)
  by_cases h1 : n < 1
  · clear hn hk
    go_enter Try.func11, Try.ntmps11
    go_wp2_with fail
    refine (HAW.out).mono ?_
    rintro e w1 ⟨rfl, hb⟩
    have HB := Lib.hid hb
    clear hb
    go_wp2_with fail
    go_ret
    exact ⟨rfl, HB.out⟩
  by_cases h2 : 60 < n
  · clear hn hk
    go_enter Try.func11, Try.ntmps11
    go_wp2_with fail
    refine (HAW.out).mono ?_
    rintro e w1 ⟨rfl, hb⟩
    have HB := Lib.hid hb
    clear hb
    go_wp2_with fail
    go_ret
    exact ⟨rfl, HB.out⟩
  obtain ⟨N, hN⟩ : ∃ N : Nat, n = (N : Int) := ⟨n.toNat, by omega⟩
  subst hN
  have HNB : Hid (1 ≤ N ∧ N ≤ 60) := Lib.hid (by omega)
  have HK := Lib.hid hk
  clear hn hk HAW
  go_enter Try.func11, Try.ntmps11
  go_wp2_with fail
  refine (nnew_any w).mono ?_
  rintro e w1 ⟨rfl, hw1⟩
  have hn1 := nin_new w
  rw [← hw1] at hn1
  obtain ⟨g, hg⟩ : ∃ g, g = w.heap.size := ⟨_, rfl⟩
  rw [← hg] at hn1 ⊢
  have HN1 := Lib.hid hn1
  clear hw1 hn1 hg
  go_wp2_with fail
  go_loopw [6] (fun i wr => ∃ j : Nat, j ≤ N ∧ i = .int .i64 j ∧ Hid (NIn w wr (fun _ => False) g ((List.range j).map pkR))) (fun i _ => N - (intOf i).toNat)
  case atStart => exact ⟨0, Nat.zero_le _, rfl, HN1⟩
  case round =>
    obtain ⟨j, hj, rfl, HR⟩ := hrel
    obtain ⟨w2, hw2⟩ : ∃ w2 : World, w2 = wr := ⟨_, rfl⟩
    subst hw2
    by_cases hlt : j < N
    · have hy : (j : Int) < (N : Int) := by omega
      have HJ := Lib.hid hlt
      have hj60 : (j : Int) < 60 := by have := HNB.out; omega
      clear hlt hj h1 h2
      go_wp2_with fail
      have hx : Value.int .u8 (j : Int) = byteV (UInt8.ofNat j) := by
        unfold byteV
        rw [UInt8.toNat_ofNat', Nat.mod_eq_of_lt (by omega)]
      have hs := nin_lit HR.out 2 1 (UInt8.ofNat j) 5 71 (0, 0) (0, 0) w2.heap.size (w2.heap.size + 1) (.int .u8 (j : Int)) hx rfl rfl (by rw [range_pk]; omega)
      rw [sendM_one (by rw [range_pk]; omega) rfl] at hs
      dsimp only at hs
      rw [show ((1 : Nat) : Int) = 1 from rfl, show (⟨2, 1, [UInt8.ofNat j]⟩ : PkM) = pkR j from rfl, range_next] at hs
      refine hs.mono ?_
      clear hs hx
      rintro e w3 ⟨rfl, hn3⟩
      have HN3 := Lib.hid hn3
      clear hn3
      go_wp2_with fail
      go_roundw
      case rel => have := HJ.out; exact ⟨j + 1, by omega, by go_num, HN3⟩
      case measure => have := HJ.out; simp [intOf]; omega
    · have hjN : j = N := by omega
      have hy : ¬ (j : Int) < (N : Int) := by omega
      subst hjN
      have hro := round_any k j w2 HK.out (by have := HNB.out; omega)
      have HRO := Lib.hid hro
      clear hlt hj h1 h2 hro
      go_wp2_with fail
      refine (HRO.out).mono ?_
      rintro e w3 ⟨⟨r, hr, rfl⟩, rfl⟩
      have hq : ((List.range j).map pkR)[r]? = some (pkR r) := by rw [List.getElem?_map, List.getElem?_range hr]; rfl
      have htw := nin_twice HR.out hq (by rw [range_pk]; have := HNB.out; omega)
      have HTW := Lib.hid htw
      have HRJ := Lib.hid hr
      obtain ⟨Q, hQ⟩ : ∃ Q, Q = (List.range j).map pkR ++ [pkR r] := ⟨_, rfl⟩
      have hQl : Q.length = j + 1 := by rw [hQ]; simp
      have HQ := Lib.hid hQ
      have HQL := Lib.hid hQl
      clear hq htw hr hQ hQl
      go_wp2_with fail
      refine (HTW.out).mono ?_
      rintro e w4 ⟨rfl, hn4, _⟩
      rw [← HQ.out] at hn4
      have hln := nin_len hn4
      rw [HQL.out] at hln
      have HLN := Lib.hid hln
      have HN4 := Lib.hid hn4
      have hcast : (((j + 1 : Nat) : Int) != (j : Int) + 1) = false := by simp
      have hjb : (j : Int) ≤ 60 := by have := HNB.out; omega
      clear hn4 hln HTW HRO
      go_wp2_with fail
      refine (HLN.out).mono ?_
      rintro e w5 ⟨rfl, hw5⟩
      cases hw5.symm
      go_wp2_with fail
      go_loopw [7] (fun i wr => ∃ i' : Nat, i' ≤ j + 1 ∧ i = .int .i64 i' ∧ Hid (NIn w wr (fun _ => False) g (Q.drop i'))) (fun i _ => j + 1 - (intOf i).toNat)
      case atStart => exact ⟨0, Nat.zero_le _, rfl, by rw [List.drop_zero]; exact HN4⟩
      case round =>
        obtain ⟨i, hi, rfl, HR2⟩ := hrel
        obtain ⟨w6, hw6⟩ : ∃ w6 : World, w6 = wr := ⟨_, rfl⟩
        subst hw6
        have hz := zero_cells Try.infoPkz
        rcases (by omega : i < j ∨ i = j ∨ i = j + 1) with hij | hij | hij
        · have hQi : Q[i]? = some (pkR i) := by
            rw [HQ.out, List.getElem?_append_left (by rw [range_pk]; exact hij), List.getElem?_map, List.getElem?_range hij]
            rfl
          obtain ⟨hd0, hd1⟩ := drop_head hQi
          have hd := nin_deliver HR2.out hd0 (by rw [List.length_drop, HQL.out]; have := HNB.out; omega)
          rw [hd1] at hd
          unfold pkR at hd
          dsimp only at hd
          have HD := Lib.hid hd
          have HI := Lib.hid hij
          have hle : (i : Int) ≤ (j : Int) := by omega
          have hne : ((i : Int) == (j : Int)) = false := by rw [beq_eq_false_iff_ne]; omega
          have hi60 : (i : Int) < 60 := by omega
          have hir : (((UInt8.ofNat i).toNat : Nat) : Int) = (i : Int) := by rw [UInt8.toNat_ofNat', Nat.mod_eq_of_lt (by omega)]
          clear hd hd0 hd1 hQi hij hi
          go_wp2_with fail
          refine (HD.out).mono ?_
          rintro e w7 ⟨a7, c7, rfl, ho7, hn7, _⟩
          obtain ⟨gb, rfl, hc7⟩ := own_byte ho7
          rw [hir] at hc7
          have hc8 := cell_more hc7 (.cells #[.int .i64 2, .int .i64 1, .slice (some ⟨gb, 0, none⟩) 1 c7] 71)
          have HN8 := Lib.hid (nin_less (Z' := fun _ => False) (nin_below hn7 (below_more (Below.refl _ _) (.cells #[.int .i64 2, .int .i64 1, .slice (some ⟨gb, 0, none⟩) 1 c7] 71))) (fun _ h => h.elim))
          clear ho7 hn7 hc7 hir HD
          dsimp only [List.length_cons, List.length_nil, Nat.zero_add]
          go_wp2_with (first | (refine wpList_alloc_z rfl 71 rfl #[.int .i64 0, .int .i64 0, .slice none 0 0] hz ?_) | fail)
          go_roundw
          case rel => have := HI.out; exact ⟨i + 1, by omega, by go_num, HN8⟩
          case measure => have := HI.out; simp [intOf]; omega
        · have hQi : Q[i]? = some (pkR r) := by
            rw [HQ.out, List.getElem?_append_right (by rw [range_pk]; omega), range_pk, hij, Nat.sub_self]
            rfl
          obtain ⟨hd0, hd1⟩ := drop_head hQi
          have hd := nin_deliver HR2.out hd0 (by rw [List.length_drop, HQL.out]; have := HNB.out; omega)
          rw [hd1] at hd
          unfold pkR at hd
          dsimp only at hd
          have HD := Lib.hid hd
          have HI := Lib.hid hij
          have hle : (i : Int) ≤ (j : Int) := by omega
          have hne : ((i : Int) == (j : Int)) = true := by rw [beq_iff_eq]; omega
          have hi60 : (i : Int) ≤ 60 := by omega
          have hr60 : (r : Int) < 60 := by have := HRJ.out; omega
          have hir : (((UInt8.ofNat r).toNat : Nat) : Int) = (r : Int) := by rw [UInt8.toNat_ofNat', Nat.mod_eq_of_lt (by omega)]
          clear hd hd0 hd1 hQi hij hi
          go_wp2_with fail
          refine (HD.out).mono ?_
          rintro e w7 ⟨a7, c7, rfl, ho7, hn7, _⟩
          obtain ⟨gb, rfl, hc7⟩ := own_byte ho7
          rw [hir] at hc7
          have hc8 := cell_more hc7 (.cells #[.int .i64 2, .int .i64 1, .slice (some ⟨gb, 0, none⟩) 1 c7] 71)
          have HN8 := Lib.hid (nin_less (Z' := fun _ => False) (nin_below hn7 (below_more (Below.refl _ _) (.cells #[.int .i64 2, .int .i64 1, .slice (some ⟨gb, 0, none⟩) 1 c7] 71))) (fun _ h => h.elim))
          clear ho7 hn7 hc7 hir HD
          dsimp only [List.length_cons, List.length_nil, Nat.zero_add]
          go_wp2_with (first | (refine wpList_alloc_z rfl 71 rfl #[.int .i64 0, .int .i64 0, .slice none 0 0] hz ?_) | fail)
          go_roundw
          case rel => have := HI.out; exact ⟨i + 1, by omega, by go_num, HN8⟩
          case measure => have := HI.out; simp [intOf]; omega
        · have hle : ¬ (i : Int) ≤ (j : Int) := by omega
          have hln2 := nin_len HR2.out
          rw [List.length_drop, HQL.out, hij, Nat.sub_self] at hln2
          have HLN2 := Lib.hid hln2
          have HB6 := Lib.hid (nin_all HR2.out)
          clear hln2 hij hi
          go_wp2_with fail
          refine (HLN2.out).mono ?_
          rintro e w7 ⟨rfl, hw7⟩
          cases hw7.symm
          go_wp2_with fail
          refine (nawake_any w6).mono ?_
          rintro e w8 ⟨rfl, hb8⟩
          have HB8 := Lib.hid (HB6.out.trans (hb8.mono HB6.out.size))
          clear hb8
          go_wp2_with fail
          go_ret
          exact ⟨rfl, HB8.out⟩

theorem netRows_own : ownKnob Try.prog.godebug = none := by kernel_rfl

set_option maxRecDepth 100000 in
theorem netRows_lifted (os : Os) (started : os.Started) (H : Type) (enc : TypeId × Value → H) :
    ReturnsInHanded {} Try.checked os 11 .any (Rows.netRowsSpec.pre6 enc Try.prog Try.f11 Rows.netRowsRow.domain false) (Rows.netRowsSpec.post enc Try.prog Try.f11 false true false false) := by
  refine law_lifted (C := Try.checked) netRows_own started (by kernel_rfl) Try.func11
    (ChangeSpec.witness6 (enc := enc) (C := Try.checked) false ⟨#[], #[.int .i64 0, .int .i64 0], []⟩ 8 (by kernel_rfl) (by kernel_rfl) (by kernel_rfl) (by kernel_rfl))
    (by kernel_rfl) (of_decide_eq_true (by kernel_rfl)) (tb := 4) (by kernel_rfl) Try.underlying4 rfl (fun ds h => by match ds, h with | [d0, d1], _ => exact ⟨rfl, rfl, rfl⟩) ?_
  intro W base args ds p hval0 hA0 hlt hsz0
  have hval : ∀ (j : Nat) t v, Try.f11.params[j]? = some t → args[j]? = some v → Value.okWide Try.prog W .any base t v := hval0
  have hA : DataW.TrodAll enc Try.prog W 0 (fun _ => true) true Try.f11.params.toList args.toList ds p := hA0
  have hsz : (DataW.weightsEach Try.prog Try.f11.params.toList ds).all (· ≤ reachBytes) = true := hsz0
  rw [Try.params11] at hA hval hsz
  obtain ⟨v0, vs0, d0, ds0, p0, q0, hargs, rfl, rfl, h0, r0⟩ := trodAll_cons hA
  obtain ⟨v1, vs1, d1, ds1, p1, q1, rfl, rfl, rfl, h1, r1⟩ := trodAll_cons r0
  obtain ⟨rfl, rfl, rfl⟩ := trodAll_nil r1
  obtain rfl : args = #[v0, v1] := by cases args; simp_all
  obtain ⟨a0, rfl, rfl, rfl, w0⟩ := open_int Try.underlying3 (hval 0 3 v0 rfl rfl) h0
  obtain ⟨a1, rfl, rfl, rfl, w1⟩ := open_int Try.underlying3 (hval 1 3 v1 rfl rfl) h1
  exact netRows_any (w := W) a0 (bounds_i64 w0) a1 (bounds_i64 w1)

theorem netRows_over : Rows.netRowsRow.holds Try.pinned (OpenSpec.ofChange Rows.netRowsSpec) :=
  OpenClaim.holds_of_wide 11 Try.f11 rfl rfl rfl rfl rfl rfl rfl ⟨rfl, rfl, rfl, rfl, rfl⟩ rfl rfl rfl rfl rfl (by kernel_rfl) Try.func11 (by kernel_rfl)
    (of_decide_eq_true (by kernel_rfl)) (by unfold Func.isWrapper; first | (rw [if_pos (by decide +kernel)]; kernel_rfl) | (rw [if_neg (by decide +kernel)]; exact ⟨rfl, rfl⟩))
    (fun os started H enc _ => netRows_lifted os started H enc)

theorem netRows_proved : Rows.NetRowsSaid := netRows_over
#print axioms netRows_proved

end Go.Proofs.Ytmchdfdpajobfaa
