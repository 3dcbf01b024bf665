/- Contracts: the code's Text, the reference's Hex. -/
import Derived.Deep.RegionHeld3
import Derived.Deep.RegionLaw
import Derived.BigRegion
import Derived.Test.YtcpioladmcidcaaProg
import Derived.Test.YtcpioladmcidcaaKit
import Derived.Test.YtcpioladmcidcaaInfo
import Derived.Test.YtcpioladmcidcaaRow
import Derived.Test.YtcpioladmcidcaaRow2
import Derived.Test.YtcpioladmcidcaaCod5
import Derived.Test.YtcpioladmcidcaaCod7
import Derived.Test.YtcpioladmcidcaaCod8
import Derived.Test.YtcpioladmcidcaaLens
import Derived.Test.YtcpioladmcidcaaGoes
import Derived.Test.YtcpioladmcidcaaTxt0
namespace Go.Proofs.Ytcpioladmcidcaa
open Go.RowKit Go.Proofs

theorem two_new (w : World) (x y : Value) (e : TypeId) : ∀ (j : Nat) (u : Value), [x, y][j]? = some u → (w.alloc (.cells #[x, y] e)).cell? ((⟨w.heap.size, 0, none⟩ : Addr).add j) = some u := by
  intro j u hj
  rw [Addr.add_mid, Nat.zero_add, alloc_cell]
  match j, hj with
  | 0, hj => exact hj
  | 1, hj => exact hj

theorem two_one (x y : UInt8) : ∀ u ∈ [Value.int .u8 (x.toNat : Int), Value.int .u8 (y.toNat : Int)], u.oneCell' = true := by
  intro u hu
  simp at hu
  rcases hu with rfl | rfl <;> rfl

set_option maxHeartbeats 1000000 in
theorem text_any (l : List UInt8) (hl : l.length = 32) (w : World) :
    Calls Try.prog 14 #[.agg (l.map byteV).toArray] w fun e w' => e = .returned (.string ⟨(hexS l).toArray⟩) ∧ Below w.heap.size w w' := by
  obtain ⟨i0, hi, hz0, hz1, hz2⟩ := info_parts Try.infoByte
  have hu : (Try.prog.info? 5).map (·.size) = some 1 := (zero_of_info3 Try.infoByte)
  obtain ⟨L, hL⟩ : ∃ L, L = l.map byteV := ⟨_, rfl⟩
  have hr := Rw.alloc w 27 L.toArray (base := w.heap.size) (Nat.le_refl _)
  have HI : Hid ((Try.prog.info? 27).map (·.size) = some L.length) := Lib.hid (by rw [hL, List.length_map, hl]; exact Try.infoHashn)
  have HR := Lib.hid hr
  have HL := Lib.hid hL
  have HLL := Lib.hid hl
  rw [← hL]
  clear hL hr hl
  have hmk : ∀ W : World, (Instr.makeSlice 23 (.int .i64 0) (.int .i64 64)).run Try.prog W = .ok (.slice (some ⟨W.heap.size, 0, none⟩) 0 64) (W.alloc (.cells (Array.replicate 64 (.int .u8 0)) 5)) := fun W => by kernel_rfl
  go_enter Try.func14, Try.ntmps14
  have HR2 := Lib.hid (HR.out.more (.cells (Array.replicate 64 (.int .u8 0)) 5))
  have hown0 : ((w.alloc (.cells L.toArray 27)).alloc (.cells (Array.replicate 64 (.int .u8 0)) 5)).ownsRow w.heap.size 5 1 (.slice (some ⟨w.heap.size + 1, 0, none⟩) 0 64) 0 (([] : List UInt8).map byteV) := by
    refine ⟨rfl, .inr ⟨w.heap.size + 1, 64, Array.replicate 64 (.int .u8 0), rfl, by omega, ?_, by omega, by unfold maxLen; omega, by simp, by simp⟩⟩
    have h := heap_alloc_new (w.alloc (.cells L.toArray 27)) (.cells (Array.replicate 64 (.int .u8 0)) 5)
    simpa using h
  have HO0 := Lib.hid hown0
  have HB0 : Hid (Below w.heap.size w ((w.alloc (.cells L.toArray 27)).alloc (.cells (Array.replicate 64 (.int .u8 0)) 5))) := Lib.hid (below_more (below_more (Below.refl w.heap.size w) _) _)
  clear hown0
  go_wp2_with (refine wpList_load_mid rfl 27 _ rfl w.heap.size 0 rfl L _ HR2.out.whole Try.underlying27 rfl HI.out ?_)
  clear HR HR2
  generalize (w.alloc (.cells L.toArray 27)).alloc (.cells (Array.replicate 64 (.int .u8 0)) 5) = w0 at HO0 HB0 ⊢
  go_loopw [3, 8] (fun v i wr => ∃ (k M : Nat) (a : Option Addr) (c : Nat), v = .slice a M c ∧ i = .int .i64 k ∧ k ≤ 32 ∧ Hid (M = 2 * k) ∧ Hid (wr.ownsRow w.heap.size 5 1 (.slice a M c) M ((hexS (l.take k)).map byteV)) ∧ Hid (Below w.heap.size w wr)) (fun _ i _ => 32 - (intOf i).toNat)
  case atStart => exact ⟨0, 0, _, 64, rfl, rfl, Nat.zero_le _, Lib.hid rfl, HO0, HB0⟩
  case round =>
    clear HO0 HB0 hmk
    obtain ⟨k, M, a, c, rfl, rfl, hk, HM, HO, HB⟩ := hrel
    obtain ⟨w1, hw1⟩ : ∃ w1 : World, w1 = wr := ⟨_, rfl⟩
    subst hw1
    by_cases hlt : k < 32
    · obtain ⟨x, hx⟩ : ∃ x, l[k]? = some x := ⟨_, List.getElem?_eq_getElem (by rw [HLL.out]; exact hlt)⟩
      have hrow : L.toArray[k]? = some (.int .u8 (x.toNat : Int)) := by
        rw [HL.out]
        simp [hx, byteV]
      have HROW := Lib.hid hrow
      have HX := Lib.hid (take_succ_of hx)
      obtain ⟨q, hq⟩ : ∃ q, q = x.toNat / 16 := ⟨_, rfl⟩
      obtain ⟨r, hr⟩ : ∃ r, r = x.toNat % 16 := ⟨_, rfl⟩
      have hx256 := x.toNat_lt
      have e1 : (x.toNat : Int) / 16 = (q : Int) := by omega
      have e2 : bits .and .u8 (x.toNat : Int) 15 = (r : Int) := by rw [and15, hr]
      have kq := fun W => run_digit (P := Try.prog) (t := 9) Try.underlying9 (show q < 16 by omega) .u8 W
      have kr := fun W => run_digit (P := Try.prog) (t := 9) Try.underlying9 (show r < 16 by omega) .u8 W
      unfold digS at kq kr
      have hM := HM.out
      have hMb : M + 2 < 1099511627776 := by omega
      have HQ : Hid (hexS (l.take (k + 1)) = hexS (l.take k) ++ [hexD q, hexD r]) := Lib.hid (by rw [HX.out, hexS_snoc, hq, hr])
      have hy : (k : Int) < 32 := by omega
      have HKL := Lib.hid hlt
      obtain ⟨dq, hdq⟩ : ∃ dq, dq = hexD q := ⟨_, rfl⟩
      obtain ⟨dr, hdr⟩ : ∃ dr, dr = hexD r := ⟨_, rfl⟩
      rw [← hdq] at kq HQ
      rw [← hdr] at kr HQ
      clear hx hrow hq hr hx256 hM hk hdq hdr
      go_wp2_with (refine wpList_index_row (ki := .i64) rfl 27 _ _ rfl (.int .u8 (x.toNat : Int)) Try.underlying27 Try.underlying5 hu rfl rfl hlt HROW.out ?_)
      go_region_law (refine step_append_own1 rfl (.tmp 11) (.tmp 18) 23 rfl w.heap.size 5 i0 (.int .u8 0) Try.underlying23 hi hz0 hz1 hz2 rfl (.slice a M c) M _ rfl (HO.out.alloc (.cells #[.int .u8 (dq.toNat : Int), .int .u8 (dr.toNat : Int)] 5)) ⟨w1.heap.size, 0, none⟩ 2 2 [.int .u8 (dq.toNat : Int), .int .u8 (dr.toNat : Int)] rfl rfl (two_new w1 _ _ _) (two_one _ _) hMb (Nat.le_trans HB.out.size (by simp)) ?_; intro v2 w2 hown2 hb2)
      all_goals
        obtain ⟨a2, c2, rfl⟩ := own_len hown2.out
        have HB2 : Hid (Below w.heap.size w w2) := Lib.hid (by
          first
            | exact (HB.out.alloc HB.out.size _).trans hb2.out
            | exact (below_draws (HB.out.alloc HB.out.size _) ⟨1, rfl⟩).trans hb2.out)
        clear hb2 kq kr e1 e2
        go_wp2_with fail
        go_roundw
        case rel =>
          have hM := HM.out
          have hk := HKL.out
          refine ⟨k + 1, M + 2, a2, c2, rfl, by go_num, by omega, Lib.hid (by omega), Lib.hid ?_, HB2⟩
          rw [HQ.out, List.map_append]
          exact hown2.out
        case measure => have hk := HKL.out; simp [intOf]; omega
    · have hk32 : k = 32 := by omega
      have ho := HO.out
      rw [hk32, List.take_of_length_le (by rw [HLL.out]; exact Nat.le_refl _)] at ho
      have kc := run_convert_own (P := Try.prog) 23 5 9 Try.underlying23 Try.underlying5 Try.underlying9 ho
      have hn32 : ¬ ((k : Int) < 32) := by omega
      clear hk32 ho hk hlt HO HM
      go_wp2
      go_ret
      exact ⟨rfl, HB.out⟩

set_option maxHeartbeats 1000000 in
theorem hex_any (v : Value) (l : List UInt8) (hl : l.length < 4294967296) (w : World) (hv : SliceAt w v (l.map byteV)) :
    Calls Try.prog 15 #[v] w fun e w' => e = .returned (.string ⟨(hexS l).toArray⟩) ∧ Below w.heap.size w w' := by
  obtain ⟨i0, hi, hz0, hz1, hz2⟩ := info_parts Try.infoByte
  obtain ⟨av, cv, rfl, hcells⟩ := hv
  rw [List.length_map]
  obtain ⟨n, hn⟩ : ∃ n, n = l.length := ⟨_, rfl⟩
  rw [← hn] at hl ⊢
  have HC := Lib.hid hcells
  have HN := Lib.hid hn
  clear hcells hn
  go_enter Try.func15, Try.ntmps15
  go_wp2
  go_loopw [4, 5] (fun v i wr => ∃ (k M : Nat) (a : Option Addr) (c : Nat), v = .slice a M c ∧ i = .int .i64 k ∧ k ≤ n ∧ Hid (M = 2 * k) ∧ Hid (wr.ownsRow w.heap.size 5 1 (.slice a M c) M ((hexS (l.take k)).map byteV)) ∧ Hid (Below w.heap.size w wr)) (fun _ i _ => n - (intOf i).toNat)
  case atStart => exact ⟨0, 0, none, 0, rfl, rfl, Nat.zero_le _, Lib.hid rfl, Lib.hid ⟨rfl, .inl ⟨rfl, rfl⟩⟩, Lib.hid (Below.refl _ _)⟩
  case round =>
    obtain ⟨k, M, a, c, rfl, rfl, hk, HM, HO, HB⟩ := hrel
    obtain ⟨w1, hw1⟩ : ∃ w1 : World, w1 = wr := ⟨_, rfl⟩
    subst hw1
    by_cases hlt : k < n
    · obtain ⟨x, hx⟩ : ∃ x, l[k]? = some x := ⟨_, List.getElem?_eq_getElem (by rw [← HN.out]; exact hlt)⟩
      have hmx : (l.map byteV)[k]? = some (.int .u8 (x.toNat : Int)) := by rw [List.getElem?_map, hx]; rfl
      have hne : l.map byteV ≠ [] := by intro e; rw [e] at hmx; simp at hmx
      obtain ⟨b1, o1, rfl, hb1⟩ := HC.out.resolve_left hne
      have hcw := hb1 k _ hmx
      have d1 : w1.cell? ⟨b1, o1 + k, none⟩ = some (.int .u8 (x.toNat : Int)) := (HB.out.cell (block_of_cell hcw)).trans hcw
      have HX := Lib.hid (take_succ_of hx)
      obtain ⟨q, hq⟩ : ∃ q, q = x.toNat / 16 := ⟨_, rfl⟩
      obtain ⟨r, hr⟩ : ∃ r, r = x.toNat % 16 := ⟨_, rfl⟩
      have hx256 := x.toNat_lt
      have e1 : (x.toNat : Int) / 16 = (q : Int) := by omega
      have e2 : bits .and .u8 (x.toNat : Int) 15 = (r : Int) := by rw [and15, hr]
      have kq := fun W => run_digit (P := Try.prog) (t := 9) Try.underlying9 (show q < 16 by omega) .u8 W
      have kr := fun W => run_digit (P := Try.prog) (t := 9) Try.underlying9 (show r < 16 by omega) .u8 W
      unfold digS at kq kr
      have hM := HM.out
      have hMb : M + 2 < 1099511627776 := by omega
      have HQ : Hid (hexS (l.take (k + 1)) = hexS (l.take k) ++ [hexD q, hexD r]) := Lib.hid (by rw [HX.out, hexS_snoc, hq, hr])
      have hy : (k : Int) < (n : Int) := by omega
      have HKL := Lib.hid hlt
      obtain ⟨dq, hdq⟩ : ∃ dq, dq = hexD q := ⟨_, rfl⟩
      obtain ⟨dr, hdr⟩ : ∃ dr, dr = hexD r := ⟨_, rfl⟩
      rw [← hdq] at kq HQ
      rw [← hdr] at kr HQ
      clear hx hmx hne hb1 hcw hq hr hx256 hM hk hdq hdr
      go_wp2_with fail
      go_region_law (refine step_append_own1 rfl (.tmp 12) (.tmp 27) 23 rfl w.heap.size 5 i0 (.int .u8 0) Try.underlying23 hi hz0 hz1 hz2 rfl (.slice a M c) M _ rfl (HO.out.alloc (.cells #[.int .u8 (dq.toNat : Int), .int .u8 (dr.toNat : Int)] 5)) ⟨w1.heap.size, 0, none⟩ 2 2 [.int .u8 (dq.toNat : Int), .int .u8 (dr.toNat : Int)] rfl rfl (two_new w1 _ _ _) (two_one _ _) hMb (Nat.le_trans HB.out.size (by simp)) ?_; intro v2 w2 hown2 hb2)
      all_goals
        obtain ⟨a2, c2, rfl⟩ := own_len hown2.out
        have HB2 : Hid (Below w.heap.size w w2) := Lib.hid (by
          first
            | exact (HB.out.alloc HB.out.size _).trans hb2.out
            | exact (below_draws (HB.out.alloc HB.out.size _) ⟨1, rfl⟩).trans hb2.out)
        clear hb2 kq kr e1 e2
        go_wp2_with fail
        go_roundw
        case rel =>
          have hM := HM.out
          have hk := HKL.out
          refine ⟨k + 1, M + 2, a2, c2, rfl, by go_num, by omega, Lib.hid (by omega), Lib.hid ?_, HB2⟩
          rw [HQ.out, List.map_append]
          exact hown2.out
        case measure => have hk := HKL.out; simp [intOf]; omega
    · have hkn : k = l.length := by have := HN.out; omega
      have ho := HO.out
      rw [hkn, List.take_length] at ho
      have kc := run_convert_own (P := Try.prog) 23 5 9 Try.underlying23 Try.underlying5 Try.underlying9 ho
      clear hkn ho hk HO HM
      go_wp2
      go_ret
      exact ⟨rfl, HB.out⟩

end Go.Proofs.Ytcpioladmcidcaa
