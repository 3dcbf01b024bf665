/- Contracts: the reference's block. -/
import Derived.Deep.RegionHeld3
import Derived.BigRegion
import Derived.Test.YtcpioladmcidcaaProg
import Derived.Test.YtcpioladmcidcaaKit
import Derived.Test.YtcpioladmcidcaaInfo
import Derived.Test.YtcpioladmcidcaaRow
import Derived.Test.YtcpioladmcidcaaU32
import Derived.Test.YtcpioladmcidcaaSha
import Derived.Test.YtcpioladmcidcaaSha2b
import Derived.Test.YtcpioladmcidcaaSha3
import Derived.Test.YtcpioladmcidcaaRow2
import Derived.Test.YtcpioladmcidcaaCod2
import Derived.Test.YtcpioladmcidcaaCod3
namespace Go.Proofs.Ytcpioladmcidcaa
open Go.RowKit Go.Proofs

theorem l8_at (s : H8) {k : Nat} (hk : k < 8) : (s.l.map wV)[k]? = some (.int .u32 (iw (s.l.getD k 0))) :=
  lt8 (P := fun k => (s.l.map wV)[k]? = some (.int .u32 (iw (s.l.getD k 0)))) rfl rfl rfl rfl rfl rfl rfl rfl hk

/-- Eight words built, and stored whole. -/
theorem wpList_build8_store {ops : Array Oper} {rest : List Oper} {o1 o2 : Oper} {a : Act} {w : World} {Q : Exit → Act → World → Prop} (hg : o1.guard = none) (x0 x1 x2 x3 x4 x5 x6 x7 : Operand)
    (ho : o1.op = .build 41 #[(0, x0), (1, x1), (2, x2), (3, x3), (4, x4), (5, x5), (6, x6), (7, x7)]) (c0 c1 c2 c3 c4 c5 c6 c7 : Int)
    (h0 : a.eval x0 = .int .u32 c0) (h1 : a.eval x1 = .int .u32 c1) (h2 : a.eval x2 = .int .u32 c2) (h3 : a.eval x3 = .int .u32 c3) (h4 : a.eval x4 = .int .u32 c4) (h5 : a.eval x5 = .int .u32 c5) (h6 : a.eval x6 = .int .u32 c6) (h7 : a.eval x7 = .int .u32 c7)
    (hg2 : o2.guard = none) (p q : Operand) (ho2 : o2.op = .store 41 p q) (hd2 : o2.dst = none) (g base : Nat) (xs : List Value) (e : TypeId) (hr : Rw w base g e xs) (hl : xs.length = 8)
    (hp : (a.put o1.dst (.agg #[.int .u32 c0, .int .u32 c1, .int .u32 c2, .int .u32 c3, .int .u32 c4, .int .u32 c5, .int .u32 c6, .int .u32 c7])).eval p = .pointer (some ⟨g, 0, none⟩))
    (hq : (a.put o1.dst (.agg #[.int .u32 c0, .int .u32 c1, .int .u32 c2, .int .u32 c3, .int .u32 c4, .int .u32 c5, .int .u32 c6, .int .u32 c7])).eval q = .agg #[.int .u32 c0, .int .u32 c1, .int .u32 c2, .int .u32 c3, .int .u32 c4, .int .u32 c5, .int .u32 c6, .int .u32 c7])
    (h : ∀ w', Hid (w' = w.setCells g 0 [.int .u32 c0, .int .u32 c1, .int .u32 c2, .int .u32 c3, .int .u32 c4, .int .u32 c5, .int .u32 c6, .int .u32 c7]) → wpList Try.prog ops Q rest (a.put o1.dst (.agg #[.int .u32 c0, .int .u32 c1, .int .u32 c2, .int .u32 c3, .int .u32 c4, .int .u32 c5, .int .u32 c6, .int .u32 c7])) w') : wpList Try.prog ops Q (o1 :: o2 :: rest) a w := by
  refine wpList_build8 hg x0 x1 x2 x3 x4 x5 x6 x7 ho c0 c1 c2 c3 c4 c5 c6 c7 h0 h1 h2 h3 h4 h5 h6 h7 ?_
  refine wpList_store_mid hg2 41 p q ho2 g 0 _ hp hq (hr.there 0 _ (by rw [hl]; exact Nat.le_refl 8)) Try.infoW8n (by simp [Value.oneCell']) ?_
  have hh := h _ (Lib.hid rfl)
  rw [hd2]
  exact hh

set_option maxRecDepth 100000 in
set_option maxHeartbeats 2000000 in
theorem block_any (gt gh base : Nat) (K : List UInt32) (s : H8) (l : List UInt8) (v : Value) (w : World) (hK : K.length = 64) (hl : l.length = 64)
    (ht : ∀ j x, K[j]? = some x → w.cell? ⟨gt, 8 + j, none⟩ = some (wV x)) (hh : Rw w base gh 41 (s.l.map wV)) (hv : SliceAt w v (l.map byteV)) :
    Calls Try.prog 21 #[.pointer (some ⟨gt, 0, none⟩), .pointer (some ⟨gh, 0, none⟩), v] w fun e w' => e = .returned (.tuple #[]) ∧ Rw w' base gh 41 ((blockS K s l).l.map wV) ∧ Save w.heap.size gh w w' := by
  obtain ⟨bb, bo, bc, rfl, hbc⟩ := hv.at (by intro e; have := congrArg List.length e; rw [List.length_map, hl] at this; simp at this)
  rw [List.length_map, hl]
  have HBC := Lib.hid hbc
  have HK := Lib.hid hK
  have HL := Lib.hid hl
  have HT := Lib.hid ht
  have HH := Lib.hid hh
  clear hbc hK hl ht hh hv
  obtain ⟨Z, hz, hZ⟩ : ∃ Z, (∀ w, (zeroValue 53).run Try.prog w = .ok (.agg Z) w) ∧ Z = Array.replicate 64 (.int .u32 0) := ⟨_, zero_cells Try.infoW64, rfl⟩
  have HZ := Lib.hid hZ
  clear hZ
  obtain ⟨Z8, hz8, hZ8⟩ : ∃ Z, (∀ w, (zeroValue 41).run Try.prog w = .ok (.agg Z) w) ∧ Z = Array.replicate 8 (.int .u32 0) := ⟨_, zero_cells Try.infoW8, rfl⟩
  have HZ8 := Lib.hid hZ8
  clear hZ8
  go_enter Try.func21, Try.ntmps21
  go_wp2_with (refine wpList_alloc_z rfl 53 rfl Z hz ?_)
  have hw0 : Rw (w.alloc (.cells Z 53)) w.heap.size w.heap.size 53 ((List.replicate 64 (0 : UInt32)).map wV) := by
    have := Rw.alloc w 53 Z (base := w.heap.size) (Nat.le_refl _)
    rw [HZ.out] at this ⊢
    simpa [wV, iw] using this
  have HW0 := Lib.hid hw0
  have HS0 := Lib.hid (below_more (Below.refl w.heap.size w) (.cells Z 53))
  clear hw0
  go_loopw [7] (fun i wr => ∃ k : Nat, k ≤ 16 ∧ i = .int .i64 k ∧ Hid (Rw wr w.heap.size w.heap.size 53 ((words l k ++ List.replicate (64 - k) 0).map wV)) ∧ Hid (Below w.heap.size w wr)) (fun i _ => 16 - (intOf i).toNat)
  case atStart => exact ⟨0, by omega, rfl, HW0, HS0⟩
  case round =>
    clear HW0 HS0
    obtain ⟨k, hk, rfl, HW, HS⟩ := hrel
    obtain ⟨w1, hw1⟩ : ∃ w1 : World, w1 = wr := ⟨_, rfl⟩
    subst hw1
    by_cases hlt : k < 16
    · have hget : ∀ i, i < 64 → ∃ x, l[i]? = some x ∧ w1.cell? ⟨bb, bo + i, none⟩ = some (.int .u8 (x.toNat : Int)) := fun i hi => by
        obtain ⟨x, h1⟩ : ∃ x, l[i]? = some x := ⟨_, List.getElem?_eq_getElem (by rw [HL.out]; exact hi)⟩
        refine ⟨x, h1, ?_⟩
        have h2 := HBC.out i (byteV x) (by rw [List.getElem?_map, h1]; rfl)
        exact (HS.out.cell (block_of_cell h2)).trans h2
      obtain ⟨x0, hx0, c0⟩ := hget (4 * k) (by omega)
      obtain ⟨x1, hx1, c1⟩ := hget (4 * k + 1) (by omega)
      obtain ⟨x2, hx2, c2⟩ := hget (4 * k + 2) (by omega)
      obtain ⟨x3, hx3, c3⟩ := hget (4 * k + 3) (by omega)
      have hcw : w1.cell? ⟨w.heap.size, k, none⟩ = some (wV 0) := HW.out.cell (by
        rw [List.getElem?_map, List.getElem?_append_right (by simp [words]), List.getElem?_replicate, if_pos (by simp [words]; omega)]
        rfl)
      have hfw := HW.out.free k
      have HX : Hid (word4 l k = x0.toUInt32 <<< 24 ||| x1.toUInt32 <<< 16 ||| x2.toUInt32 <<< 8 ||| x3.toUInt32) := Lib.hid (by
        unfold word4
        simp only [List.getD_eq_getElem?_getD, hx0, hx1, hx2, hx3, Option.getD_some])
      have HV : Hid (Value.int .u32 (bits .or .u32 (bits .or .u32 (bits .or .u32 ((x0.toNat : Int) % 4294967296 * 16777216 % 4294967296) ((x1.toNat : Int) % 4294967296 * 65536 % 4294967296)) ((x2.toNat : Int) % 4294967296 * 256 % 4294967296)) ((x3.toNat : Int) % 4294967296)) = wV (word4 l k)) := Lib.hid (by
        simp only [iw_byte, iw_shl24, iw_shl16, iw_shl8, iw_or, HX.out]
        rfl)
      have y0 : 4 * (k : Int) < 64 := by omega
      have y1 : 4 * (k : Int) + 1 < 64 := by omega
      have y2 : 4 * (k : Int) + 2 < 64 := by omega
      have y3 : 4 * (k : Int) + 3 < 64 := by omega
      have y4 : (k : Int) < 64 := by omega
      have y5 : (k : Int) < 16 := by omega
      have HKK := Lib.hid hlt
      clear hget hx0 hx1 hx2 hx3 hlt hk
      go_wp2_with fail
      go_region
      go_wp2
      go_roundw
      case rel =>
        have hlt := HKK.out
        refine ⟨k + 1, by omega, by go_num, ?_, ?_⟩
        · rw [HV.out]
          have := HW.out.stored k (wV (word4 l k))
          rw [← List.map_set, show 64 - k = (64 - (k + 1)) + 1 from by omega, List.replicate_succ, words_set l k 0] at this
          exact Lib.hid this
        · rw [HV.out]
          exact Lib.hid ((HS.out.setCell (Nat.le_refl _) _).trans (below_draws (Below.refl _ _) ⟨1, rfl⟩))
      case measure => have := HKK.out; simp [intOf]; omega
    · have h16 : k = 16 := by omega
      have HW2 : Hid (Rw w1 w.heap.size w.heap.size 53 ((sched (words l 16) 0 ++ List.replicate (48 - 0) 0).map wV)) := Lib.hid (by have := HW.out; rw [h16] at this; exact this)
      have hn16 : ¬ ((k : Int) < 16) := by omega
      clear h16 hlt hk HW
      go_wp2
      go_loopw [8] (fun i wr => ∃ k n : Nat, n = 16 + k ∧ k ≤ 48 ∧ i = .int .i64 n ∧ Hid (Rw wr w.heap.size w.heap.size 53 ((sched (words l 16) k ++ List.replicate (48 - k) 0).map wV)) ∧ Hid (Below w.heap.size w wr)) (fun i _ => 64 - (intOf i).toNat)
      case atStart => exact ⟨0, 16, rfl, by omega, rfl, HW2, HS⟩
      case round =>
        clear HW2 HS
        obtain ⟨k, n, hn, hk, rfl, HW, HS⟩ := hrel
        obtain ⟨w1, hw1⟩ : ∃ w1 : World, w1 = wr := ⟨_, rfl⟩
        subst hw1
        by_cases hlt : k < 48
        · obtain ⟨R, hR⟩ : ∃ R, R = sched (words l 16) k := ⟨_, rfl⟩
          have hRl : R.length = 16 + k := by rw [hR, sched_len]; simp [words]
          have hat : ∀ j, j < 16 + k → w1.cell? ⟨w.heap.size, j, none⟩ = some (.int .u32 (iw (R.getD j 0))) := fun j hj => HW.out.cell (by
            rw [← hR, List.getElem?_map, List.getElem?_append_left (by omega), List.getElem?_eq_getElem (by omega), List.getD_eq_getElem?_getD, List.getElem?_eq_getElem (by omega)]
            rfl)
          obtain ⟨x0, hx0⟩ : ∃ x, x = R.getD k 0 := ⟨_, rfl⟩
          obtain ⟨x1, hx1⟩ : ∃ x, x = R.getD (k + 1) 0 := ⟨_, rfl⟩
          obtain ⟨x9, hx9⟩ : ∃ x, x = R.getD (k + 9) 0 := ⟨_, rfl⟩
          obtain ⟨x14, hx14⟩ : ∃ x, x = R.getD (k + 14) 0 := ⟨_, rfl⟩
          have c0 := hat (n - 16) (by omega)
          have c1 := hat (n - 15) (by omega)
          have c9 := hat (n - 7) (by omega)
          have c14 := hat (n - 2) (by omega)
          rw [show n - 16 = k from by omega, ← hx0] at c0
          rw [show n - 15 = k + 1 from by omega, ← hx1] at c1
          rw [show n - 7 = k + 9 from by omega, ← hx9] at c9
          rw [show n - 2 = k + 14 from by omega, ← hx14] at c14
          have z16 : ((n : Int) - 16) = ((k : Nat) : Int) := by omega
          have z15 : ((n : Int) - 15) = ((k + 1 : Nat) : Int) := by omega
          have z7 : ((n : Int) - 7) = ((k + 9 : Nat) : Int) := by omega
          have z2 : ((n : Int) - 2) = ((k + 14 : Nat) : Int) := by omega
          have hcw : w1.cell? ⟨w.heap.size, n, none⟩ = some (.int .u32 0) := HW.out.cell (by
            rw [← hR, List.getElem?_map, List.getElem?_append_right (by omega), List.getElem?_replicate, if_pos (by omega)]
            rfl)
          have hfw := HW.out.free n
          have HRR := Lib.hid hR
          have HX0 := Lib.hid hx0
          have HX1 := Lib.hid hx1
          have HX9 := Lib.hid hx9
          have HX14 := Lib.hid hx14
          have HRL := Lib.hid hRl
          have HNN := Lib.hid hn
          have HKK := Lib.hid hlt
          have y5 : (n : Int) < 64 := by omega
          have y6 : 16 ≤ (n : Int) := by omega
          have y7 : (k : Int) < 48 := by omega
          clear hat hR hx0 hx1 hx9 hx14 hRl hn hlt hk
          go_wp2_with fail
          have hn := HNN.out
          have q1 : (k : Int) < 64 := by omega
          have q2 : (k : Int) + 9 < 64 := by omega
          have q3 : 0 ≤ (k : Int) + 9 := by omega
          have q4 : ((k : Int) + 9).toNat = k + 9 := by omega
          have q5 : IntKind.i64.wrap ((n : Int) - 16) = (k : Int) := by rw [IntWalk.i64_in _ (by omega)]; omega
          have q6 : IntKind.i64.wrap ((n : Int) - 7) = (k : Int) + 9 := by rw [IntWalk.i64_in _ (by omega)]; omega
          have kn1 : k ≠ n := by omega
          have kn2 : k + 9 ≠ n := by omega
          have HV : Hid (Value.int .u32 ((((iw x0 + bits .xor .u32 (bits .xor .u32 (iw (rr x1 7)) (iw (rr x1 18))) (iw x1 / (8 : Int))) % (4294967296 : Int) + iw x9) % (4294967296 : Int) + bits .xor .u32 (bits .xor .u32 (iw (rr x14 17)) (iw (rr x14 19))) (iw x14 / (1024 : Int))) % (4294967296 : Int)) = wV (x0 + sig0 x1 + x9 + sig1 x14)) := Lib.hid (by
            simp only [iw_xor, iw_shr3, iw_shr10, iw_addm]
            rfl)
          clear hn z16 z15 z7 z2 c1 c14
          go_region_held3 (fun w' => w'.cell? ⟨w.heap.size, k, none⟩ = some (.int .u32 (iw x0)) ∧ w'.cell? ⟨w.heap.size, k + 9, none⟩ = some (.int .u32 (iw x9)))
            (first | exact ⟨c0, c9⟩ | exact ⟨cell_keep c0 kn1 _, cell_keep c9 kn2 _⟩)
            (first | (go_at_call_of 29 (Value.int .i64 7); refine (turn_at x1 7 7 rfl (by decide) _).mono ?_; rintro e w' ⟨rfl, m, rfl⟩) | (go_at_call_of 29 (Value.int .i64 18); refine (turn_at x1 18 18 rfl (by decide) _).mono ?_; rintro e w' ⟨rfl, m, rfl⟩) | (go_at_call_of 29 (Value.int .i64 17); refine (turn_at x14 17 17 rfl (by decide) _).mono ?_; rintro e w' ⟨rfl, m, rfl⟩) | (go_at_call_of 29 (Value.int .i64 19); refine (turn_at x14 19 19 rfl (by decide) _).mono ?_; rintro e w' ⟨rfl, m, rfl⟩))
          go_wp2
          go_roundw
          case rel =>
            have hn := HNN.out
            have hk := HKK.out
            refine ⟨k + 1, n + 1, by omega, by omega, by go_num, ?_, ?_⟩
            · rw [HV.out]
              have := HW.out.stored n (wV (x0 + sig0 x1 + x9 + sig1 x14))
              rw [← List.map_set, show 48 - k = (48 - (k + 1)) + 1 from by omega, List.replicate_succ, HX0.out, HX1.out, HX9.out, HX14.out, HRR.out, sched_set (words l 16) k n 0 (by rw [words_len]; exact hn)] at this
              rw [HX0.out, HX1.out, HX9.out, HX14.out, HRR.out]
              exact Lib.hid this
            · exact Lib.hid ((below_draws HS.out ⟨_, rfl⟩).setCell (Nat.le_refl _) _)
          case measure =>
            have hk := HKK.out
            have hn := HNN.out
            simp [intOf]; omega
        · have h48 : k = 48 := by omega
          obtain ⟨W, hW⟩ : ∃ W, W = sched (words l 16) 48 := ⟨_, rfl⟩
          have HW2 : Hid (Rw w1 w.heap.size w.heap.size 53 (W.map wV)) := Lib.hid (by have := HW.out; rw [h48, ← hW] at this; simpa using this)
          have HWE := Lib.hid hW
          have hWl : W.length = 64 := by rw [hW, sched_len, words_len]
          have HWL := Lib.hid hWl
          have hn64 : ¬ ((n : Int) < 64) := by omega
          clear hW hWl h48 hn hlt hk HW
          obtain ⟨L8, hL8⟩ : ∃ L8, L8 = s.l.map wV := ⟨_, rfl⟩
          have hr8 : Rw w1 base gh 41 L8 := by rw [hL8]; exact HH.out.below HS.out
          have hl8 : L8.length = 8 := by rw [hL8]; rfl
          have hinf8 : (Try.prog.info? 41).map (·.size) = some L8.length := by rw [hl8]; exact Try.infoW8n
          have h1c : ∀ v ∈ L8, v.oneCell' = true := by rw [hL8]; intro v hv; obtain ⟨x, _, rfl⟩ := List.mem_map.1 hv; rfl
          have hz8l : Z8.toList.length = L8.length := by rw [HZ8.out, hl8]; simp
          have ht8 := (Rw.alloc w1 41 Z8 (base := w.heap.size) HS.out.size)
          have HR8 := Lib.hid hr8
          have HI8 := Lib.hid hinf8
          have HC8 := Lib.hid h1c
          have HLL8 := Lib.hid hz8l
          have HT8 := Lib.hid ht8
          have HE8 := Lib.hid hL8
          clear hr8 hinf8 h1c hz8l ht8 hL8 hl8
          go_wp2_with (first | (refine wpList_load_mid rfl 41 _ rfl gh 0 rfl L8 _ HR8.out.whole Try.underlying41 rfl HI8.out ?_) | (refine wpList_alloc_z rfl 41 rfl Z8 hz8 ?_) | (refine wpList_store_mid rfl 41 _ _ rfl w1.heap.size 0 L8.toArray rfl rfl (HT8.out.there 0 _ (by rw [HLL8.out]; simp)) (by rw [HI8.out]; simp) (all_oneCell_toArray HC8.out) ?_))
          have hv2 : Rw ((w1.alloc (.cells Z8 41)).setCells w1.heap.size 0 L8) w.heap.size w1.heap.size 41 ((rounds K W s 0).l.map wV) := by
            have := HT8.out.storedAll L8 HLL8.out
            rw [HE8.out] at this ⊢
            exact this
          have hgw : w.heap.size < w1.heap.size := by have := HW2.out.size; exact this
          have hw2 : Rw ((w1.alloc (.cells Z8 41)).setCells w1.heap.size 0 L8) w.heap.size w.heap.size 53 (W.map wV) := (HW2.out.more _).otherAll (by omega) _ _
          have hs2 : Below w.heap.size w ((w1.alloc (.cells Z8 41)).setCells w1.heap.size 0 L8) := below_setCells HS.out.size _ _ _ (below_more HS.out _)
          obtain ⟨gv, hgv⟩ : ∃ gv, gv = w1.heap.size := ⟨_, rfl⟩
          rw [← hgv] at hv2 hw2 hs2 hgw
          simp only [← hgv]
          generalize (w1.alloc (.cells Z8 41)).setCells gv 0 L8 = w2 at hv2 hw2 hs2 ⊢
          have HV2 := Lib.hid hv2
          have HA2 := Lib.hid hw2
          have HS2 := Lib.hid hs2
          have HGW := Lib.hid hgw
          clear hv2 hw2 hs2 hgw hgv
          go_loopw [12] (fun i wr => ∃ (k : Nat), k ≤ 64 ∧ i = .int .i64 k ∧ Hid (Rw wr w.heap.size gv 41 ((rounds K W s k).l.map wV)) ∧ Hid (Rw wr w.heap.size w.heap.size 53 (W.map wV)) ∧ Hid (Below w.heap.size w wr)) (fun i _ => 64 - (intOf i).toNat)
          case atStart => exact ⟨0, by omega, rfl, HV2, HA2, HS2⟩
          case round =>
            clear HV2 HA2 HS2
            obtain ⟨k, hk, rfl, HV, HA, HS⟩ := hrel
            obtain ⟨w3, hw3⟩ : ∃ w3 : World, w3 = wr := ⟨_, rfl⟩
            subst hw3
            by_cases hlt : k < 64
            · obtain ⟨V, hV⟩ : ∃ V, V = rounds K W s k := ⟨_, rfl⟩
              obtain ⟨kk, hkk⟩ : ∃ kk, K[k]? = some kk := ⟨_, List.getElem?_eq_getElem (by rw [HK.out]; exact hlt)⟩
              obtain ⟨ww, hww⟩ : ∃ ww, W[k]? = some ww := ⟨_, List.getElem?_eq_getElem (by rw [HWL.out]; exact hlt)⟩
              have HN : Hid (rounds K W s (k + 1) = roundS V kk ww) := Lib.hid (by
                rw [rounds, hV, List.getD_eq_getElem?_getD, hkk, List.getD_eq_getElem?_getD, hww]
                rfl)
              have hrv := HV.out
              rw [← hV] at hrv
              have hkt := HT.out k kk hkk
              have hck : w3.cell? ⟨gt, 8 + k, none⟩ = some (.int .u32 (iw kk)) := (HS.out.cell (block_of_cell hkt)).trans hkt
              have hcw : w3.cell? ⟨w.heap.size, k, none⟩ = some (.int .u32 (iw ww)) := HA.out.cell (by rw [List.getElem?_map, hww]; rfl)
              clear hV hkk hww hkt
              obtain ⟨va, vb, vc, vd, ve, vf, vg, vh⟩ := V
              have d0 : w3.cell? ⟨gv, 0, none⟩ = some (.int .u32 (iw va)) := hrv.cell rfl
              have d1 : w3.cell? ⟨gv, 1, none⟩ = some (.int .u32 (iw vb)) := hrv.cell rfl
              have d2 : w3.cell? ⟨gv, 2, none⟩ = some (.int .u32 (iw vc)) := hrv.cell rfl
              have d3 : w3.cell? ⟨gv, 3, none⟩ = some (.int .u32 (iw vd)) := hrv.cell rfl
              have d4 : w3.cell? ⟨gv, 4, none⟩ = some (.int .u32 (iw ve)) := hrv.cell rfl
              have d5 : w3.cell? ⟨gv, 5, none⟩ = some (.int .u32 (iw vf)) := hrv.cell rfl
              have d6 : w3.cell? ⟨gv, 6, none⟩ = some (.int .u32 (iw vg)) := hrv.cell rfl
              have d7 : w3.cell? ⟨gv, 7, none⟩ = some (.int .u32 (iw vh)) := hrv.cell rfl
              have HRV := Lib.hid hrv
              have HKL := Lib.hid hlt
              have hk64 : (k : Int) < 64 := by omega
              have HP : Hid (Value.int .u32 (((iw vh + bits .xor .u32 (bits .xor .u32 (iw (rr ve 6)) (iw (rr ve 11))) (iw (rr ve 25)) + bits .xor .u32 (bits .and .u32 (iw ve) (iw vf)) (bits .and .u32 (bits .xor .u32 (if IntKind.u32.signed = true then -1 else IntKind.u32.max) (iw ve)) (iw vg)) + iw kk) % (4294967296 : Int) + iw ww) % (4294967296 : Int)) = .int .u32 (iw (roundP ⟨va, vb, vc, vd, ve, vf, vg, vh⟩ kk ww))) := Lib.hid (by
                simp only [iw_notx, iw_xor, iw_and, iw_sum5]
                rfl)
              clear hrv hlt hk HV
              go_wp2_with fail
              go_quiet (first | (go_at_call_of 29 (Value.int .i64 6); exact Calls.quiet_of (turn_at ve 6 6 rfl (by decide) _)) | (go_at_call_of 29 (Value.int .i64 11); exact Calls.quiet_of (turn_at ve 11 11 rfl (by decide) _)) | (go_at_call_of 29 (Value.int .i64 25); exact Calls.quiet_of (turn_at ve 25 25 rfl (by decide) _)))
              rw [HP.out]
              obtain ⟨w5, hw5⟩ : ∃ w5, w5 = w3.drewN nq := ⟨_, rfl⟩
              rw [← hw5]
              have e0 : w5.cell? ⟨gv, 0, none⟩ = some (.int .u32 (iw va)) := by rw [hw5]; exact d0
              have e1 : w5.cell? ⟨gv, 1, none⟩ = some (.int .u32 (iw vb)) := by rw [hw5]; exact d1
              have e2 : w5.cell? ⟨gv, 2, none⟩ = some (.int .u32 (iw vc)) := by rw [hw5]; exact d2
              have e3 : w5.cell? ⟨gv, 3, none⟩ = some (.int .u32 (iw vd)) := by rw [hw5]; exact d3
              have e4 : w5.cell? ⟨gv, 4, none⟩ = some (.int .u32 (iw ve)) := by rw [hw5]; exact d4
              have e5 : w5.cell? ⟨gv, 5, none⟩ = some (.int .u32 (iw vf)) := by rw [hw5]; exact d5
              have e6 : w5.cell? ⟨gv, 6, none⟩ = some (.int .u32 (iw vg)) := by rw [hw5]; exact d6
              have HRV5 : Hid (Rw w5 w.heap.size gv 41 (([va, vb, vc, vd, ve, vf, vg, vh] : List UInt32).map wV)) := Lib.hid (by rw [hw5]; exact HRV.out)
              have HA5 : Hid (Rw w5 w.heap.size w.heap.size 53 (W.map wV)) := Lib.hid (by rw [hw5]; exact HA.out)
              have HS5 : Hid (Below w.heap.size w w5) := Lib.hid (by rw [hw5]; exact below_drewN HS.out nq)
              obtain ⟨pp, hpp⟩ : ∃ pp, pp = roundP ⟨va, vb, vc, vd, ve, vf, vg, vh⟩ kk ww := ⟨_, rfl⟩
              rw [← hpp]
              have HPP := Lib.hid hpp
              have HQ : Hid (Value.int .u32 ((bits .xor .u32 (bits .xor .u32 (iw (rr va 2)) (iw (rr va 13))) (iw (rr va 22)) + bits .xor .u32 (bits .xor .u32 (bits .and .u32 (iw va) (iw vb)) (bits .and .u32 (iw va) (iw vc))) (bits .and .u32 (iw vb) (iw vc))) % (4294967296 : Int)) = .int .u32 (iw (roundQ ⟨va, vb, vc, vd, ve, vf, vg, vh⟩))) := Lib.hid (by
                simp only [iw_xor, iw_and, iw_addm]
                rfl)
              clear d0 d1 d2 d3 d4 d5 d6 d7 hck hcw HA HS HRV HP hw5 hpp
              go_wp2_with fail
              go_quiet (first | (go_at_call_of 29 (Value.int .i64 2); exact Calls.quiet_of (turn_at va 2 2 rfl (by decide) _)) | (go_at_call_of 29 (Value.int .i64 13); exact Calls.quiet_of (turn_at va 13 13 rfl (by decide) _)) | (go_at_call_of 29 (Value.int .i64 22); exact Calls.quiet_of (turn_at va 22 22 rfl (by decide) _)))
              rw [HQ.out]
              obtain ⟨qq, hqq⟩ : ∃ qq, qq = roundQ ⟨va, vb, vc, vd, ve, vf, vg, vh⟩ := ⟨_, rfl⟩
              rw [← hqq]
              have HQQ := Lib.hid hqq
              obtain ⟨w7, hw7⟩ : ∃ w7, w7 = w5.drewN nq := ⟨_, rfl⟩
              rw [← hw7]
              have f0 : w7.cell? ⟨gv, 0, none⟩ = some (.int .u32 (iw va)) := by rw [hw7]; exact e0
              have f1 : w7.cell? ⟨gv, 1, none⟩ = some (.int .u32 (iw vb)) := by rw [hw7]; exact e1
              have f2 : w7.cell? ⟨gv, 2, none⟩ = some (.int .u32 (iw vc)) := by rw [hw7]; exact e2
              have f3 : w7.cell? ⟨gv, 3, none⟩ = some (.int .u32 (iw vd)) := by rw [hw7]; exact e3
              have f4 : w7.cell? ⟨gv, 4, none⟩ = some (.int .u32 (iw ve)) := by rw [hw7]; exact e4
              have f5 : w7.cell? ⟨gv, 5, none⟩ = some (.int .u32 (iw vf)) := by rw [hw7]; exact e5
              have f6 : w7.cell? ⟨gv, 6, none⟩ = some (.int .u32 (iw vg)) := by rw [hw7]; exact e6
              have HRV7 : Hid (Rw w7 w.heap.size gv 41 (([va, vb, vc, vd, ve, vf, vg, vh] : List UInt32).map wV)) := Lib.hid (by rw [hw7]; exact HRV5.out)
              have HA7 : Hid (Rw w7 w.heap.size w.heap.size 53 (W.map wV)) := Lib.hid (by rw [hw7]; exact HA5.out)
              have HS7 : Hid (Below w.heap.size w w7) := Lib.hid (by rw [hw7]; exact below_drewN HS5.out nq)
              clear e0 e1 e2 e3 e4 e5 e6 HA5 HS5 HRV5 HQ hqq hw7
              go_wp2_with (refine wpList_build8_store rfl _ _ _ _ _ _ _ _ rfl _ _ _ _ _ _ _ _ rfl rfl rfl rfl rfl rfl rfl rfl rfl _ _ rfl rfl gv w.heap.size _ 41 HRV7.out (by simp) rfl rfl ?_; intro w8 HW8)
              go_roundw
              case rel =>
                have hlt := HKL.out
                have hw8 := HW8.out
                have hgw := HGW.out
                simp only [iw_addm] at hw8
                refine ⟨k + 1, by omega, by go_num, Lib.hid ?_, Lib.hid ?_, Lib.hid ?_⟩
                · rw [hw8, HN.out]
                  have hst := HRV7.out.storedAll [.int .u32 (iw (pp + qq)), .int .u32 (iw va), .int .u32 (iw vb), .int .u32 (iw vc), .int .u32 (iw (vd + pp)), .int .u32 (iw ve), .int .u32 (iw vf), .int .u32 (iw vg)] (by simp)
                  rw [HPP.out, HQQ.out] at hst ⊢
                  exact hst
                · rw [hw8]
                  exact HA7.out.otherAll (by omega) _ _
                · rw [hw8]
                  exact below_setCells (by omega) _ _ _ HS7.out
              case measure => have hlt := HKL.out; simp [intOf]; omega
            · have h64 : k = 64 := by omega
              obtain ⟨V, hV⟩ : ∃ V, V = rounds K W s 64 := ⟨_, rfl⟩
              have hv := HV.out
              rw [h64, ← hV] at hv
              have HRV := Lib.hid hv
              have HFIN : Hid (blockS K s l = s.add V) := Lib.hid (by rw [hV, HWE.out]; rfl)
              have hgh : gh < w.heap.size := HH.out.size
              have hg0 : Rw w3 base gh 41 (upTo s V 0 ++ []) := by rw [List.append_nil]; exact HH.out.below HS.out
              have HG0 := Lib.hid hg0
              have HSV : Hid (Save w.heap.size gh w w3) := Lib.hid (Save.of HS.out)
              have hn64 : ¬ ((k : Int) < 64) := by omega
              clear h64 hV hv hg0 hlt hk HV HA HS
              go_wp2
              go_loopw [17] (fun i wr => ∃ k : Nat, k ≤ 8 ∧ i = .int .i64 k ∧ Hid (Rw wr base gh 41 (upTo s V k ++ [])) ∧ Hid (Rw wr w.heap.size gv 41 (V.l.map wV)) ∧ Hid (Save w.heap.size gh w wr)) (fun i _ => 8 - (intOf i).toNat)
              case atStart => exact ⟨0, by omega, rfl, HG0, HRV, HSV⟩
              case round =>
                clear HG0 HRV HSV
                obtain ⟨k, hk, rfl, HG, HRV, HSV⟩ := hrel
                obtain ⟨w4, hw4⟩ : ∃ w4 : World, w4 = wr := ⟨_, rfl⟩
                subst hw4
                by_cases hlt : k < 8
                · have hc := HG.out.cell (upTo_at hlt [])
                  have hf := HG.out.free k
                  have hd := HRV.out.cell (l8_at V hlt)
                  have hfin := HG.out.stored k (wV (s.l.getD k 0 + V.l.getD k 0))
                  rw [upTo_set hlt] at hfin
                  obtain ⟨x, hx⟩ : ∃ x, x = s.l.getD k 0 := ⟨_, rfl⟩
                  obtain ⟨y, hyy⟩ : ∃ y, y = V.l.getD k 0 := ⟨_, rfl⟩
                  rw [← hx] at hc hfin
                  rw [← hyy] at hd hfin
                  have hy : (k : Int) < 8 := by omega
                  have HFIN2 := Lib.hid hfin
                  have HKL := Lib.hid hlt
                  clear hfin hx hyy hk hlt
                  go_wp2_with fail
                  go_region
                  go_wp2
                  go_roundw
                  case rel =>
                    have hgw := HGW.out
                    refine ⟨k + 1, by have := HKL.out; omega, by go_num, Lib.hid ?_, Lib.hid ?_, Lib.hid ?_⟩
                    · rw [iw_addm]
                      exact HFIN2.out
                    · exact Rw.drew (HRV.out.other (by omega) _ _) ⟨1, rfl⟩
                    · exact (HSV.out.put k _).draws ⟨1, rfl⟩
                  case measure => have hk := HKL.out; simp [intOf]; omega
                · have h8 : k = 8 := by omega
                  have hg := HG.out
                  rw [h8, List.append_nil] at hg
                  have HGF := Lib.hid hg
                  have hn8 : ¬ ((k : Int) < 8) := by omega
                  clear h8 hg hk HG hlt
                  go_wp2
                  go_end0
                  rw [HFIN.out]
                  exact ⟨rfl, HGF.out, HSV.out⟩

end Go.Proofs.Ytcpioladmcidcaa
