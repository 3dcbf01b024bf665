/-
  NetOwn: for every slice of bytes, a net neither keeps what is handed in nor hands out what it keeps; a net that is none has no room; the law returns true, and what was there has not turned. No condition.
-/
import Derived.BigRegion
import Derived.Deep.RegionHeld3
import Derived.Test.YtmchdfdpajobfaaProg
import Derived.Test.YtmchdfdpajobfaaKit
import Derived.Test.YtmchdfdpajobfaaLaw
import Derived.Test.YtmchdfdpajobfaaInfo
import Derived.Test.YtmchdfdpajobfaaRow
import Derived.Test.YtmchdfdpajobfaaCod7
import Derived.Test.YtmchdfdpajobfaaCod9
import Derived.Test.YtmchdfdpajobfaaLaw2
import Derived.Test.YtmchdfdpajobfaaTxt2
import Derived.Test.YtmchdfdpajobfaaFrm4
import Derived.Test.YtmchdfdpajobfaaFrm12
import Derived.Test.YtmchdfdpajobfaaNet0
import Derived.Test.YtmchdfdpajobfaaNet1
import Derived.Test.YtmchdfdpajobfaaNet2
import Derived.Test.YtmchdfdpajobfaaNet4
import Derived.Test.YtmchdfdpajobfaaNet6
import Derived.Test.YtmchdfdpajobfaaNet12
import Derived.Test.YtmchdfdpajobfaaNet13
namespace Go.Proofs.Ytmchdfdpajobfaa
open Go.ChangeShapes Go.WideShapes Go.ChangeAt Go.RowKit Go.Proofs
open Go.ChangeMaps (open_string shut_string)

theorem nilsend_any (v : Value) (w : World) : Calls Try.prog 35 #[.pointer none, v] w fun e w' => e = .returned (.int .i64 0) ∧ w' = w := by
  go_enter Try.func35, Try.ntmps35
  go_wp2_with fail
  go_ret
  exact ⟨rfl, rfl⟩

theorem nillen_any (w : World) : Calls Try.prog 47 #[.pointer none] w fun e w' => e = .returned (.int .i64 0) ∧ w' = w := by
  go_enter Try.func47, Try.ntmps47
  go_wp2_with fail
  go_ret
  exact ⟨rfl, rfl⟩

theorem nilhas_any (w : World) : Calls Try.prog 76 #[.pointer none, .int .i64 0] w fun e w' => e = .returned (.bool false) ∧ w' = w := by
  go_enter Try.func76, Try.ntmps76
  go_wp2_with fail
  refine (nillen_any w).mono ?_
  rintro e w1 ⟨rfl, rfl⟩
  go_wp2_with fail
  go_ret
  exact ⟨rfl, rfl⟩

set_option maxRecDepth 100000 in
theorem nildeliver_any (w : World) : Calls Try.prog 37 #[.pointer none, .int .i64 0] w fun e w' => e = .returned (.tuple #[zeroPk, .bool false]) ∧ Below w.heap.size w w' := by
  have hbA : Below w.heap.size w (w.alloc (.cells #[.int .i64 0, .int .i64 0, .slice none 0 0] 71)) := below_more (Below.refl _ _) _
  have hzr : Rw (w.alloc (.cells #[.int .i64 0, .int .i64 0, .slice none 0 0] 71)) 0 w.heap.size 71 [.int .i64 0, .int .i64 0, .slice none 0 0] := Rw.alloc w _ _ (Nat.zero_le _)
  have hz := zero_cells Try.infoPkz
  have HBA := Lib.hid hbA
  have HZR := Lib.hid hzr
  have HTH := Lib.hid (Rw.there hzr 0 3 (Nat.le_refl _))
  clear hbA hzr
  go_enter Try.func37, Try.ntmps37
  go_wp2_with (first | (refine wpList_alloc_z rfl 71 rfl #[.int .i64 0, .int .i64 0, .slice none 0 0] hz ?_) | fail)
  refine (nilhas_any _).mono ?_
  rintro e w2 ⟨rfl, rfl⟩
  go_wp2_with (first | (refine wpList_store_mid rfl 71 (.tmp 4) (.tmp 10) rfl w.heap.size 0 #[.int .i64 0, .int .i64 0, .slice none 0 0] rfl rfl HTH.out Try.infoPk (pk_one _ _ _ _ _) ?_) | fail)
  obtain ⟨hend, hbe⟩ := pk_back (f := 0) (t := 0) (a := none) (n := 0) (c := 0) HZR.out HBA.out
  refine bodyPost_ret (v := .tuple #[zeroPk, .bool false]) ?_ rfl ⟨rfl, hbe⟩
  exact results_row_tmp rfl _ _ w.heap.size 0 _ [.int .i64 0, .int .i64 0, .slice none 0 0] _ rfl hend Try.underlying71 rfl Try.infoPk _ rfl

theorem nildrop_any (w : World) : Calls Try.prog 40 #[.pointer none, .int .i64 0] w fun e w' => e = .returned (.bool false) ∧ Below w.heap.size w w' := by
  have HD := Lib.hid (nildeliver_any w)
  have hz := zero_cells Try.infoPkz
  unfold zeroPk at HD
  go_enter Try.func40, Try.ntmps40
  go_wp2_with fail
  refine (HD.out).mono ?_
  rintro e w2 ⟨rfl, hb2⟩
  have HB := Lib.hid (below_more hb2 (.cells #[.int .i64 0, .int .i64 0, .slice none 0 0] 71))
  clear hb2
  go_wp2_with (first | (refine wpList_alloc_z rfl 71 rfl #[.int .i64 0, .int .i64 0, .slice none 0 0] hz ?_) | fail)
  go_ret
  exact ⟨rfl, HB.out⟩

theorem niltwice_any (w : World) : Calls Try.prog 41 #[.pointer none, .int .i64 0] w fun e w' => e = .returned (.bool false) ∧ w' = w := by
  go_enter Try.func41, Try.ntmps41
  go_wp2_with fail
  refine (nilhas_any w).mono ?_
  rintro e w1 ⟨rfl, rfl⟩
  go_wp2_with fail
  go_ret
  exact ⟨rfl, rfl⟩

theorem nilclear_any (k : Int) (w : World) : Calls Try.prog 43 #[.pointer none, .int .i64 k] w fun e w' => e = .returned (.int .i64 0) ∧ w' = w := by
  go_enter Try.func43, Try.ntmps43
  go_wp2_with fail
  go_ret
  exact ⟨rfl, rfl⟩

/-- A packet whose bytes are the call's own. -/
theorem own_pk {w : World} {Z : Nat → Prop} (f t : Int) {l : List UInt8} {a : Option Addr} {n c : Nat} {base : Nat} (ho : w.ownsRow base 5 1 (.slice a n c) n (l.map byteV)) (hn : n = l.length) (hZb : ∀ k, base ≤ k → k < w.heap.size → Z k) (b2 : Nat) (hb2 : b2 = w.heap.size) (hZ2 : Z b2) (hl : l.length ≤ 140737488351232) :
    PksZ (w.alloc (.cells #[.int .i64 f, .int .i64 t, .slice a n c] 71)) Z (.slice (some ⟨b2, 0, none⟩) 1 1) [⟨f, t, l⟩] := by
  subst hb2 hn
  refine ⟨_, 1, rfl, .inr ⟨_, 0, rfl, hZ2, fun j p hj => ?_⟩⟩
  match j, hj with
  | 0, hj =>
    simp at hj
    subst hj
    refine ⟨.slice a l.length c, fun i y hi => ?_, ?_, hl⟩
    · rw [cell_of_row _ _ _ _ 71 (0, 0) (heap_alloc_new w _)]
      simpa using hi
    · rcases ho.2 with ⟨hv, hn⟩ | ⟨g, cap, cur, hv, hb, hh, hnc, _⟩
      · exact .inl ⟨hv, List.eq_nil_of_length_eq_zero hn⟩
      · injection hv with h1 h2 h3
        subst h1 h3
        refine .inr ⟨_, c, rfl, hnc, .inr ⟨g, 0, rfl, hZb g hb (own_lt ho rfl), fun i y hi => ?_⟩⟩
        have hil : i < l.length := (List.getElem?_eq_some_iff.1 hi).1
        have h4 := World.ownsRow.cellAt ho i (by omega)
        rw [Nat.zero_add]
        refine cell_more (h4.trans ?_) _
        rw [List.getElem?_map, hi]
        rfl
  | j + 1, hj => simp at hj

theorem sl_at {w W : World} {v : Value} {l : List UInt8} (h : ByteSl w w.heap.size v l) (hb : Below w.heap.size w W) : SliceAt W v (l.map byteV) := by
  obtain ⟨a, c, rfl, _, hl⟩ := ByteSl.part (ByteSl.keep h hb (Nat.le_refl _))
  exact Lies.sliceAt hl c

set_option maxRecDepth 100000 in
set_option maxHeartbeats 4000000 in
theorem netOwn_any (v : Value) (l : List UInt8) (w : World) (hv : ByteSl w w.heap.size v l) (hl : l.length ≤ 140737488351232) :
    Calls Try.prog 10 #[v] w fun e w' => e = .returned (.bool true) ∧ Below w.heap.size w w' := by
  obtain ⟨a, c, rfl⟩ : ∃ a c, v = .slice a l.length c := by
    rcases hv with ⟨rfl, rfl⟩ | ⟨ad, c, rfl, _, _⟩
    · exact ⟨none, 0, rfl⟩
    · exact ⟨_, _, rfl⟩
  obtain ⟨n, hn⟩ : ∃ n, n = l.length := ⟨_, rfl⟩
  rw [← hn] at hv hl ⊢
  have HV := Lib.hid hv
  have HN := Lib.hid hn
  have HAW := Lib.hid (nawake_any w)
  clear hv hn
  by_cases hlong : 500 < n
  · have h2 : (500 : Int) < (n : Int) := by omega
    clear hlong hl
    go_enter Try.func10, Try.ntmps10
    go_wp2_with fail
    refine (HAW.out).mono ?_
    rintro e w1 ⟨rfl, hb⟩
    have HB := Lib.hid hb
    clear hb
    go_wp2_with fail
    go_ret
    exact ⟨rfl, HB.out⟩
  have h2 : ¬ (500 : Int) < (n : Int) := by omega
  have HL500 : Hid (n ≤ 500) := Lib.hid (by omega)
  obtain ⟨i0, hi, hz0, hz1, hz2⟩ := info_parts Try.infoByte
  clear hl hlong HAW
  go_enter Try.func10, Try.ntmps10
  go_wp2_with fail
  refine (nnew_any w).mono ?_
  rintro e w1 ⟨rfl, hw1⟩
  have hn1 := nin_new w
  rw [← hw1] at hn1
  obtain ⟨g, hg⟩ : ∃ g, g = w.heap.size := ⟨_, rfl⟩
  rw [← hg] at hn1 ⊢
  have HN1 := Lib.hid hn1
  clear hw1 hn1 hg
  have hvl : ByteSl (w1.alloc (.cells #[] 5)) (w1.alloc (.cells #[] 5)).heap.size (.slice a n c) l := by
    have hb := (nin_all HN1.out).trans (below_more (Below.refl w1.heap.size w1) (.cells #[] 5) |>.mono (nin_all HN1.out).size)
    exact ByteSl.more3 (ByteSl.keep HV.out hb (Nat.le_refl _)) hb.size
  have HVL := Lib.hid hvl
  have HLT : Hid (0 + l.length < 1099511627776) := Lib.hid (by rw [← HN.out]; have := HL500.out; omega)
  clear hvl
  go_wp2_with (first | (at_builtin; refine wpList_append_sl rfl _ _ 39 rfl w1.heap.size 5 i0 (.int .u8 0) Try.underlying39 hi hz0 hz1 hz2 rfl _ 0 [] rfl (World.ownsRow_lit w1 #[] 0 (Nat.le_refl _) (by decide) rfl) _ l rfl _ HVL.out HLT.out (by simp) ?_; intro v2 w2 hown2 hb2; rw [Nat.zero_add, List.nil_append, ← HN.out] at hown2; obtain ⟨a2, c2, rfl⟩ := own_len hown2) | fail)
  have hb12 : Below w1.heap.size w1 w2 := (below_more (Below.refl _ _) _).trans hb2
  have hb3 : Below w1.heap.size w1 (w2.alloc (.cells #[.int .i64 3, .int .i64 4, .slice a2 n c2] 71)) := below_more hb12 _
  obtain ⟨w3, hw3⟩ : ∃ w3, w3 = w2.alloc (.cells #[.int .i64 3, .int .i64 4, .slice a2 n c2] 71) := ⟨_, rfl⟩
  have hz3 := own_pk (Z := fun k => k < w.heap.size ∨ (w1.heap.size ≤ k ∧ k < w3.heap.size)) 3 4 (base := w1.heap.size) hown2 HN.out (fun k hk hk2 => .inr ⟨hk, by rw [hw3]; simp; omega⟩) w2.heap.size rfl (.inr ⟨hb12.size, by rw [hw3]; simp⟩) (by have := HL500.out; have := HN.out; omega)
  rw [← hw3] at hz3 hb3
  have hn3 := nin_less (Z' := fun k => w1.heap.size ≤ k ∧ k < w3.heap.size) (nin_below HN1.out hb3) (fun k hk => .inr hk)
  have hs := nin_sendz hn3 hz3 (by simp) (by simp)
  rw [show sendM [] [(⟨3, 4, l⟩ : PkM)] = (1, [⟨3, 4, l⟩]) from sendM_one (by simp) rfl] at hs
  dsimp only at hs
  rw [show ((1 : Nat) : Int) = 1 from rfl] at hs
  have HS := Lib.hid hs
  have hO3 := own_below hown2 (below_more (Below.refl _ w2) (.cells #[.int .i64 3, .int .i64 4, .slice a2 n c2] 71))
  rw [← hw3] at hO3
  have HO3 := Lib.hid hO3
  have HZ3 : Hid (∀ k, (Value.slice a2 n c2).ownBlock = some k → w1.heap.size ≤ k ∧ k < w3.heap.size) := Lib.hid (fun k hk => ⟨(World.ownsRow.lt hO3 k hk).1, own_lt hO3 hk⟩)
  have H01 := Lib.hid (nin_all HN1.out).size
  rw [← hw3]
  clear hb12 hb3 hz3 hn3 hs hw3 hown2 hb2 hO3
  refine (HS.out).mono ?_
  rintro e w4 ⟨rfl, hn4, hst4⟩
  have HO4 : Hid (w4.ownsRow w1.heap.size 5 1 (.slice a2 n c2) n (l.map byteV)) := Lib.hid (own_same HO3.out (fun k hk => hst4.1 k (HZ3.out k hk)))
  have HN4 := Lib.hid hn4
  have hsa := SliceAt.own HO4.out
  have hsb := sl_at HV.out (nin_all hn4)
  have HBY := Lib.hid (bytes_same l _ _ w4 (by rw [← HN.out]; have := HL500.out; omega) hsa hsb)
  clear hn4 hst4 hsa hsb HS
  go_wp2_with fail
  refine (HBY.out).mono ?_
  rintro e w5 ⟨rfl, hd5⟩
  have hb5 := below_draws (Below.refl w4.heap.size w4) hd5
  have HO5 := Lib.hid (own_below HO4.out hb5)
  have HN5 := Lib.hid (nin_less (Z' := fun k => w1.heap.size ≤ k ∧ k < w3.heap.size) (nin_below HN4.out hb5) (fun k hk => .inl hk))
  clear hb5 hd5 HBY HO4 HN4
  have hn500 : (n : Int) ≤ 500 := by have := HL500.out; omega
  go_wp2_with fail
  go_loopw [5] (fun i wr => ∃ (k : Nat) (ys : List UInt8), k ≤ n ∧ i = .int .i64 k ∧ Hid (ys.length = n) ∧ Hid (wr.ownsRow w1.heap.size 5 1 (.slice a2 n c2) n (ys.map byteV)) ∧ Hid (NIn w wr (fun k => w1.heap.size ≤ k ∧ k < w3.heap.size) g [⟨3, 4, l⟩])) (fun i _ => n - (intOf i).toNat)
  case atStart => exact ⟨0, l, Nat.zero_le _, rfl, Lib.hid HN.out.symm, HO5, HN5⟩
  case round =>
    obtain ⟨k, ys, hk, rfl, HY, HO, HR⟩ := hrel
    obtain ⟨w6, hw6⟩ : ∃ w6 : World, w6 = wr := ⟨_, rfl⟩
    subst hw6
    by_cases hlt : k < n
    · obtain ⟨x, hx⟩ : ∃ x, ys[k]? = some x := ⟨_, List.getElem?_eq_getElem (by rw [HY.out]; exact hlt)⟩
      obtain ⟨gc, cc, hsv, hgc⟩ := own_some HO.out (by omega)
      injection hsv with q1 q2 q3
      subst q1
      clear q2 q3
      have cx : w6.cell? ⟨gc, k, none⟩ = some (.int .u8 (x.toNat : Int)) := (World.ownsRow.cellAt HO.out k (by omega)).trans (by rw [List.getElem?_map, hx]; rfl)
      have fx := World.ownsRow.frozenAt HO.out k
      have hy : (k : Int) < (n : Int) := by omega
      have HX : Hid (byteV (x + 1) = Value.int .u8 (((x.toNat : Int) + 1) % 256)) := Lib.hid (by
        unfold byteV
        congr 1)
      have HJ := Lib.hid hlt
      have HGC := Lib.hid hgc
      clear hx hlt hk hgc
      go_wp2_with fail
      go_roundw
      case rel =>
        have hk := HJ.out
        refine ⟨k + 1, ys.set k (x + 1), by omega, by go_num, Lib.hid (by rw [List.length_set]; exact HY.out), Lib.hid ?_, Lib.hid (nin_store HR.out (HZ3.out gc rfl) (Nat.le_trans H01.out HGC.out) _ _)⟩
        rw [List.map_set, HX.out]
        exact (World.ownsRow.stored HO.out k _).1
      case measure => have := HJ.out; simp [intOf]; omega
    · have hy : ¬ (k : Int) < (n : Int) := by omega
      have hz := zero_cells Try.infoPkz
      have hp := nin_peek HR.out (k := 0) (p := ⟨3, 4, l⟩) rfl
      dsimp only at hp
      rw [show ((0 : Nat) : Int) = 0 from rfl, ← HN.out] at hp
      have HP := Lib.hid hp
      clear hlt hk hp HO5 HN5
      go_wp2_with fail
      refine (HP.out).mono ?_
      rintro e w7 ⟨pa, pc, rfl, ho7, hb7⟩
      obtain ⟨w8, hw8⟩ : ∃ w8, w8 = w7.alloc (.cells #[.int .i64 3, .int .i64 4, .slice pa n pc] 71) := ⟨_, rfl⟩
      have hb78 : Below w7.heap.size w7 w8 := by rw [hw8]; exact below_more (Below.refl _ _) _
      have hb68 := below_then hb7 hb78
      obtain ⟨gp, hgp⟩ : ∃ gp, gp = w7.heap.size := ⟨_, rfl⟩
      have hr8 : Rw w8 0 gp 71 [.int .i64 3, .int .i64 4, .slice pa n pc] := by rw [hw8, hgp]; exact Rw.alloc w7 _ _ (Nat.zero_le _)
      have hO8 := own_below ho7 hb78
      have HN8 : Hid (NIn w w8 (fun k => w6.heap.size ≤ k ∧ k < w8.heap.size) g [⟨3, 4, l⟩]) := Lib.hid (nin_less (nin_below HR.out hb68) (fun k hk => .inr hk))
      have HO8 := Lib.hid hO8
      have HR8 := Lib.hid hr8
      have HZ8 : Hid (∀ k, pa = some ⟨k, 0, none⟩ → w6.heap.size ≤ k ∧ k < w8.heap.size ∧ k ≠ gp) := Lib.hid (fun k hk => by
        have h1 : (Value.slice pa n pc).ownBlock = some k := by rw [hk]; rfl
        have h2 := own_lt ho7 h1
        exact ⟨(World.ownsRow.lt hO8 k h1).1, own_lt hO8 h1, by omega⟩)
      have H06 : Hid (w.heap.size ≤ w6.heap.size) := Lib.hid (nin_all HR.out).size
      have HBY := Lib.hid (bytes_same l _ _ w8 (by rw [← HN.out]; have := HL500.out; omega) (SliceAt.own hO8) (sl_at HV.out (nin_all HN8.out)))
      have HW8 := Lib.hid hw8
      have HGP := Lib.hid hgp
      clear hb78 hb68 hr8 hO8 ho7 hb7 hw8 hgp
      dsimp only
      go_wp2_with (first | (refine wpList_alloc_z rfl 71 rfl #[.int .i64 0, .int .i64 0, .slice none 0 0] hz ?_) | fail)
      rw [← HW8.out]
      refine (HBY.out).mono ?_
      rintro e w9 ⟨rfl, hd9⟩
      have hb9 := below_draws (Below.refl w8.heap.size w8) hd9
      have HO9 := Lib.hid (own_below HO8.out hb9)
      have HN9 := Lib.hid (nin_less (Z' := fun k => w6.heap.size ≤ k ∧ k < w8.heap.size) (nin_below HN8.out hb9) (fun k hk => .inl hk))
      have HR9 := Lib.hid (Rw.below HR8.out hb9)
      clear hb9 hd9 HBY HO8 HN8 HR8
      simp only [← HGP.out]
      go_wp2_with fail
      go_loopw [8] (fun i wr => ∃ (j : Nat) (ys : List UInt8), j ≤ n ∧ i = .int .i64 j ∧ Hid (ys.length = n) ∧ Hid (wr.ownsRow w6.heap.size 5 1 (.slice pa n pc) n (ys.map byteV)) ∧ Hid (NIn w wr (fun k => w6.heap.size ≤ k ∧ k < w8.heap.size) g [⟨3, 4, l⟩]) ∧ Hid (Rw wr 0 gp 71 [.int .i64 3, .int .i64 4, .slice pa n pc])) (fun i _ => n - (intOf i).toNat)
      case atStart => exact ⟨0, l, Nat.zero_le _, rfl, Lib.hid HN.out.symm, HO9, HN9, HR9⟩
      case round =>
        obtain ⟨j, ys, hj, rfl, HY, HO2, HR2, HG2⟩ := hrel
        obtain ⟨w10, hw10⟩ : ∃ w10 : World, w10 = wr := ⟨_, rfl⟩
        subst hw10
        have e2 : w10.cell? ⟨gp, 2, none⟩ = some (.slice pa n pc) := Rw.cell HG2.out rfl
        by_cases hlt : j < n
        · obtain ⟨x, hx⟩ : ∃ x, ys[j]? = some x := ⟨_, List.getElem?_eq_getElem (by rw [HY.out]; exact hlt)⟩
          obtain ⟨gq, cq, hsv, hgq⟩ := own_some HO2.out (by omega)
          injection hsv with q1 q2 q3
          subst q1
          clear q2 q3
          have cx : w10.cell? ⟨gq, j, none⟩ = some (.int .u8 (x.toNat : Int)) := (World.ownsRow.cellAt HO2.out j (by omega)).trans (by rw [List.getElem?_map, hx]; rfl)
          have fx := World.ownsRow.frozenAt HO2.out j
          have hyj : (j : Int) < (n : Int) := by omega
          have HX : Hid (byteV (x + 1) = Value.int .u8 (((x.toNat : Int) + 1) % 256)) := Lib.hid (by
            unfold byteV
            congr 1)
          have HJ := Lib.hid hlt
          have HZQ := Lib.hid (HZ8.out gq rfl)
          have HGQ := Lib.hid hgq
          clear hx hlt hj hgq HO9 HN9 HR9
          go_wp2_with fail
          go_region
          go_wp2
          go_roundw
          case rel =>
            have hk := HJ.out
            refine ⟨j + 1, ys.set j (x + 1), by omega, by go_num, Lib.hid (by rw [List.length_set]; exact HY.out), Lib.hid ?_, Lib.hid ?_, Lib.hid ?_⟩
            · rw [List.map_set, HX.out]
              exact (World.ownsRow.stored (own_below HO2.out (below_draws (Below.refl _ _) ⟨1, rfl⟩)) j _).1
            · exact nin_store (nin_less (nin_below HR2.out (below_draws (Below.refl _ _) ⟨1, rfl⟩)) (fun k hk => .inl hk)) ⟨HZQ.out.1, HZQ.out.2.1⟩ (Nat.le_trans H06.out HGQ.out) _ _
            · exact Rw.other (Rw.below HG2.out (below_draws (Below.refl _ _) ⟨1, rfl⟩)) HZQ.out.2.2 _ _
          case measure => have := HJ.out; simp [intOf]; omega
        · have hyj : ¬ (j : Int) < (n : Int) := by omega
          have hd := nin_deliver HR2.out (k := 0) (p := ⟨3, 4, l⟩) rfl (by simp)
          dsimp only at hd
          rw [show ((0 : Nat) : Int) = 0 from rfl, ← HN.out] at hd
          have HD := Lib.hid hd
          clear hlt hj hd HO9 HN9 HR9
          go_wp2_with fail
          refine (HD.out).mono ?_
          rintro e w11 ⟨qa, qc, rfl, ho11, hn11, _⟩
          obtain ⟨w12, hw12⟩ : ∃ w12, w12 = w11.alloc (.cells #[.int .i64 3, .int .i64 4, .slice qa n qc] 71) := ⟨_, rfl⟩
          have hb12 : Below w11.heap.size w11 w12 := by rw [hw12]; exact below_more (Below.refl _ _) _
          have HBY := Lib.hid (bytes_same l _ _ w12 (by rw [← HN.out]; have := HL500.out; omega) (SliceAt.own (own_below ho11 hb12)) (sl_at HV.out ((nin_all hn11).trans (hb12.mono (nin_all hn11).size))))
          have HB12 := Lib.hid ((nin_all hn11).trans (hb12.mono (nin_all hn11).size))
          obtain ⟨gq, hgq⟩ : ∃ gq, gq = w11.heap.size := ⟨_, rfl⟩
          have hr12 : Rw w12 0 gq 71 [.int .i64 3, .int .i64 4, .slice qa n qc] := by rw [hw12, hgq]; exact Rw.alloc w11 _ _ (Nat.zero_le _)
          have HR12 := Lib.hid hr12
          have HW12 := Lib.hid hw12
          have HGQ := Lib.hid hgq
          clear hb12 ho11 hn11 hw12 hr12 HD hgq
          dsimp only
          go_wp2_with (first | (refine wpList_alloc_z rfl 71 rfl #[.int .i64 0, .int .i64 0, .slice none 0 0] hz ?_) | fail)
          rw [← HW12.out]
          refine (HBY.out).mono ?_
          rintro e w13 ⟨rfl, hd13⟩
          have hb13 := below_draws (Below.refl w12.heap.size w12) hd13
          have hr13 := Rw.below HR12.out hb13
          have r0 : w13.cell? ⟨gq, 0, none⟩ = some (.int .i64 3) := Rw.cell hr13 rfl
          have r1 : w13.cell? ⟨gq, 1, none⟩ = some (.int .i64 4) := Rw.cell hr13 rfl
          have r2 : w13.cell? ⟨gq, 2, none⟩ = some (.slice qa n qc) := Rw.cell hr13 rfl
          have HB13 := Lib.hid (HB12.out.trans (hb13.mono HB12.out.size))
          simp only [← HGQ.out]
          clear hb13 hr13 hd13 HBY e2
          go_wp2_with fail
          refine (nilsend_any _ _).mono ?_
          rintro e w14 ⟨rfl, hw14⟩
          have HB14 : Hid (Below w.heap.size w w14) := Lib.hid (by rw [hw14]; exact below_more HB13.out _)
          clear hw14 r0 r1 r2
          go_wp2_with fail
          refine (nillen_any _).mono ?_
          rintro e w15 ⟨rfl, hw15⟩
          cases hw15
          go_wp2_with fail
          refine (nildrop_any _).mono ?_
          rintro e w16 ⟨rfl, hb16⟩
          have HB16 := Lib.hid (below_then HB14.out hb16)
          clear hb16
          go_wp2_with fail
          refine (niltwice_any _).mono ?_
          rintro e w17 ⟨rfl, hw17⟩
          cases hw17
          go_wp2_with fail
          refine (nilclear_any 1 _).mono ?_
          rintro e w17 ⟨rfl, hw17⟩
          cases hw17
          go_wp2_with fail
          refine (nawake_any _).mono ?_
          rintro e w18 ⟨rfl, hb18⟩
          have HB18 := Lib.hid (below_then HB16.out hb18)
          clear hb18
          go_wp2_with fail
          go_ret
          exact ⟨rfl, HB18.out⟩

theorem netOwn_own : ownKnob Try.prog.godebug = none := by kernel_rfl

theorem netOwn_bytesByte : Try.prog.bytesOf 5 = 1 := by kernel_rfl

set_option maxRecDepth 100000 in
theorem netOwn_lifted (os : Os) (started : os.Started) (H : Type) (enc : TypeId × Value → H) :
    ReturnsInHanded {} Try.checked os 10 .any (Rows.netOwnSpec.pre6 enc Try.prog Try.f10 Rows.netOwnRow.domain false) (Rows.netOwnSpec.post enc Try.prog Try.f10 false true false false) := by
  refine law_lifted (C := Try.checked) netOwn_own started (by kernel_rfl) Try.func10
    (ChangeSpec.witness6 (enc := enc) (C := Try.checked) false ⟨#[], #[.slice none 0 0], []⟩ 8 (by kernel_rfl) (by kernel_rfl) (by kernel_rfl) (by kernel_rfl))
    (by kernel_rfl) (of_decide_eq_true (by kernel_rfl)) (tb := 4) (by kernel_rfl) Try.underlying4 rfl (fun ds h => by match ds, h with | [d0], _ => exact ⟨rfl, rfl, rfl⟩) ?_
  intro W base args ds p hval0 hA0 hlt hsz0
  have hval : ∀ (j : Nat) t v, Try.f10.params[j]? = some t → args[j]? = some v → Value.okWide Try.prog W .any base t v := hval0
  have hA : DataW.TrodAll enc Try.prog W 0 (fun _ => true) true Try.f10.params.toList args.toList ds p := hA0
  have hsz : (DataW.weightsEach Try.prog Try.f10.params.toList ds).all (· ≤ reachBytes) = true := hsz0
  rw [Try.params10] at hA hval hsz
  obtain ⟨v0, vs0, d0, ds0, p0, q0, hargs, rfl, rfl, h0, r0⟩ := trodAll_cons hA
  obtain ⟨rfl, rfl, rfl⟩ := trodAll_nil r0
  obtain rfl : args = #[v0] := by cases args; simp_all
  have s0 := sized_at hsz (j := 0) (t := 39) (d := d0) rfl rfl
  obtain ⟨a0, g0, z0⟩ := open_bytes Try.underlying39 Try.underlying5 (by kernel_rfl) netOwn_bytesByte (hval 0 39 v0 rfl rfl) h0 s0
  exact netOwn_any (w := W) v0 a0 g0 z0

theorem netOwn_over : Rows.netOwnRow.holds Try.pinned (OpenSpec.ofChange Rows.netOwnSpec) :=
  OpenClaim.holds_of_wide 10 Try.f10 rfl rfl rfl rfl rfl rfl rfl ⟨rfl, rfl, rfl, rfl, rfl⟩ rfl rfl rfl rfl rfl (by kernel_rfl) Try.func10 (by kernel_rfl)
    (of_decide_eq_true (by kernel_rfl)) (by unfold Func.isWrapper; first | (rw [if_pos (by decide +kernel)]; kernel_rfl) | (rw [if_neg (by decide +kernel)]; exact ⟨rfl, rfl⟩))
    (fun os started H enc _ => netOwn_lifted os started H enc)

theorem netOwn_proved : Rows.NetOwnSaid := netOwn_over
#print axioms netOwn_proved

end Go.Proofs.Ytmchdfdpajobfaa
