/-
  NetOnce: for every number and every order, what is sent is delivered once, in whatever order it is asked for; the law returns true, and what was there has not turned. No condition.
-/
import Derived.BigRegion
import Derived.Deep.RegionHeld3
import Derived.Test.YtmchdfdpajobfaaProg
import Derived.Test.YtmchdfdpajobfaaKit
import Derived.Test.YtmchdfdpajobfaaLaw
import Derived.Test.YtmchdfdpajobfaaRow
import Derived.Test.YtmchdfdpajobfaaSha
import Derived.Test.YtmchdfdpajobfaaCod7
import Derived.Test.YtmchdfdpajobfaaFrm4
import Derived.Test.YtmchdfdpajobfaaFrm11
import Derived.Test.YtmchdfdpajobfaaDsk14
import Derived.Test.YtmchdfdpajobfaaDsk20
import Derived.Test.YtmchdfdpajobfaaNet0
import Derived.Test.YtmchdfdpajobfaaNet4
import Derived.Test.YtmchdfdpajobfaaNet10
import Derived.Test.YtmchdfdpajobfaaNet12
import Derived.Test.YtmchdfdpajobfaaNet13
import Derived.Test.YtmchdfdpajobfaaNRows
namespace Go.Proofs.Ytmchdfdpajobfaa
open Go.ChangeShapes Go.WideShapes Go.ChangeAt Go.RowKit Go.Proofs
open Go.ChangeMaps (open_string shut_string)

def pkO (i : Nat) : PkM := ⟨1, 2, [UInt8.ofNat i]⟩

theorem Try.infoBool : (Try.prog.info? 4).map (fun i => (i.zero, i.size, i.bytes)) = some (some (.bool false), 1, 1) := by kernel_rfl

theorem sendM_full {ps : List PkM} {p : PkM} (h : ¬ ps.length < 64) : sendM ps [p] = (0, ps) := by
  unfold sendM
  rw [decide_eq_false h, Bool.false_and]
  rfl

/-- A store into a block that is not the net's. -/
theorem nin_put {w0 w : World} {Z : Nat → Prop} {g : Nat} {ps : List PkM} {gm : Nat} (h : NIn w0 w Z g ps) (hZ : Z gm) (hg : w0.heap.size ≤ gm) (hty : ∀ (cur : Array Value) (fr : Nat × Nat), w.heap[gm]? ≠ some (.cells cur 5 fr)) (j : Nat) (u : Value) : NIn w0 (w.setCell ⟨gm, j, none⟩ u) Z g ps := by
  obtain ⟨v, rs, h1, h2, h3, h4, h5, h6⟩ := h
  refine ⟨v, rs, netAt_same h1 (fun k hk => set_far ?_) (fun r hr k hk => set_far ?_), h2, h3, h4, h5.setCell hg u, fun k hk => ⟨?_, (h6 k hk).2⟩⟩
  · rintro rfl
    exact (h6 _ hZ).2 hk
  · rintro rfl
    obtain ⟨cur, hc⟩ := own_blk (h1.2.2 r hr).1 hk
    exact hty _ _ hc
  · have := (h6 k hk).1
    simpa [World.setCell] using this

theorem met_ty {w : World} {gm n : Nat} {base : Nat} {xs : List Value} {c : Nat} (h : w.ownsRow base 4 1 (.slice (some ⟨gm, 0, none⟩) n c) n xs) : ∀ (cur : Array Value) (fr : Nat × Nat), w.heap[gm]? ≠ some (.cells cur 5 fr) := fun cur fr hc => by
  obtain ⟨c2, hc2⟩ := own_blk h rfl
  rw [hc2] at hc
  injection hc with hc
  injection hc with _ e _
  revert e
  decide

theorem map_erase (ns : List Nat) (k : Nat) (f : Nat → PkM) : (ns.map f).eraseIdx k = (ns.eraseIdx k).map f := by
  rw [List.eraseIdx_eq_take_drop_succ, List.eraseIdx_eq_take_drop_succ, List.map_append, List.map_take, List.map_drop]

/-- What has been met, beside what is still on its way. -/
def MetB (ns : List Nat) (ms : List Bool) : Prop := ns.Nodup ∧ ms.length = 100 ∧ ∀ b ∈ ns, b < 64 ∧ ms[b]? = some false

theorem metB_next {ns : List Nat} {ms : List Bool} {r b : Nat} (h : MetB ns ms) (hr : ns[r]? = some b) : MetB (ns.eraseIdx r) (ms.set b true) ∧ b < 64 ∧ ms[b]? = some false ∧ (ns.eraseIdx r).length + 1 = ns.length := by
  obtain ⟨h1, h2, h3⟩ := h
  have hrl := (List.getElem?_eq_some_iff.1 hr).1
  have hb := h3 b (List.mem_of_getElem? hr)
  refine ⟨⟨h1.eraseIdx r, by rw [List.length_set]; exact h2, fun x hx => ⟨(h3 x (List.mem_of_mem_eraseIdx hx)).1, ?_⟩⟩, hb.1, hb.2, by rw [List.length_eraseIdx, if_pos hrl]; omega⟩
  have hxb : b ≠ x := by
    rintro rfl
    obtain ⟨i, hi, he⟩ := List.mem_eraseIdx_iff_getElem?.1 hx
    exact hi.symm ((List.getElem?_inj hrl h1).1 (hr.trans he.symm))
  rw [List.getElem?_set_ne hxb]
  exact (h3 x (List.mem_of_mem_eraseIdx hx)).2

theorem metB_start (n : Nat) (h : n ≤ 64) : MetB (List.range n) (List.replicate 100 false) := by
  refine ⟨List.nodup_range, by simp, fun b hb => ?_⟩
  have := List.mem_range.1 hb
  exact ⟨by omega, by rw [List.getElem?_replicate, if_pos (by omega)]⟩

set_option maxRecDepth 100000 in
set_option maxHeartbeats 4000000 in
theorem netOnce_any (n : Int) (hn : -9223372036854775808 ≤ n ∧ n ≤ 9223372036854775807) (ov : Value) (os : List Int) (w : World) (ho : PickAt w ov os) (hri : RangeI os) :
    Calls Try.prog 9 #[.int .i64 n, ov] w fun e w' => e = .returned (.bool true) ∧ Below w.heap.size w w' := by
  have HAW := Lib.hid (nawake_any w)
  obtain ⟨oa, oc, rfl, _, hoc⟩ := ho
  obtain ⟨m, hm⟩ : ∃ m, m = os.length := ⟨_, rfl⟩
  rw [← hm]
  have HM := Lib.hid hm
  have HOC := Lib.hid hoc
  have HRI := Lib.hid hri
  clear hm hoc hri
  by_cases h1 : n < 0
  · clear hn
    go_enter Try.func9, Try.ntmps9
    go_wp2_with fail
    refine (HAW.out).mono ?_
    rintro e w1 ⟨rfl, hb⟩
    have HB := Lib.hid hb
    clear hb
    go_wp2_with fail
    go_ret
    exact ⟨rfl, HB.out⟩
  by_cases h2 : 100 < n
  · clear hn
    go_enter Try.func9, Try.ntmps9
    go_wp2_with fail
    refine (HAW.out).mono ?_
    rintro e w1 ⟨rfl, hb⟩
    have HB := Lib.hid hb
    clear hb
    go_wp2_with fail
    go_ret
    exact ⟨rfl, HB.out⟩
  by_cases h3 : (200 : Int) < (m : Int)
  · clear hn
    go_enter Try.func9, Try.ntmps9
    go_wp2_with fail
    refine (HAW.out).mono ?_
    rintro e w1 ⟨rfl, hb⟩
    have HB := Lib.hid hb
    clear hb
    go_wp2_with fail
    go_ret
    exact ⟨rfl, HB.out⟩
  obtain ⟨N, hN⟩ : ∃ N : Nat, n = (N : Int) := ⟨n.toNat, by omega⟩
  subst hN
  have HNB : Hid (N ≤ 100) := Lib.hid (by omega)
  have HMB : Hid (m ≤ 200) := Lib.hid (by omega)
  have hn1 := nin_new w
  have hz1 : ∀ W, (zeroValue 81).run Try.prog W = .ok (.agg #[.slice none 0 0]) W := zero_cells (n := 1) (by kernel_rfl)
  have HN1 := Lib.hid hn1
  clear hn HAW hn1
  go_enter Try.func9, Try.ntmps9
  go_wp2_with fail
  obtain ⟨g, hg⟩ : ∃ g, g = w.heap.size := ⟨_, rfl⟩
  rw [← hg] at HN1
  simp only [← hg]
  clear hg
  go_loopw [6] (fun i wr => ∃ j : Nat, j ≤ N ∧ i = .int .i64 j ∧ Hid (NIn w wr (fun _ => False) g ((List.range (min j 64)).map pkO))) (fun i _ => N - (intOf i).toNat)
  case atStart => exact ⟨0, Nat.zero_le _, rfl, HN1⟩
  case round =>
    obtain ⟨j, hj, rfl, HR⟩ := hrel
    obtain ⟨w2, hw2⟩ : ∃ w2 : World, w2 = wr := ⟨_, rfl⟩
    subst hw2
    by_cases hlt : j < N
    · have hy : (j : Int) < (N : Int) := by omega
      have HJ := Lib.hid hlt
      have hj100 : (j : Int) < 100 := by have := HNB.out; omega
      clear hlt hj h1 h2 h3
      go_wp2_with fail
      have hx : Value.int .u8 (j : Int) = byteV (UInt8.ofNat j) := by
        unfold byteV
        rw [UInt8.toNat_ofNat', Nat.mod_eq_of_lt (by omega)]
      have hs := nin_lit HR.out 1 2 (UInt8.ofNat j) 5 71 (0, 0) (0, 0) w2.heap.size (w2.heap.size + 1) (.int .u8 (j : Int)) hx rfl rfl (by rw [range_pk]; omega)
      by_cases h64 : j < 64
      · rw [sendM_one (by rw [range_pk]; omega) rfl] at hs
        dsimp only at hs
        rw [show ((1 : Nat) : Int) = 1 from rfl, show (⟨1, 2, [UInt8.ofNat j]⟩ : PkM) = pkO j from rfl, Nat.min_eq_left (by omega), range_next] at hs
        have hq : decide ((j : Int) < 64) = true := decide_eq_true (by omega)
        refine hs.mono ?_
        clear hs hx h64
        rintro e w3 ⟨rfl, hn3⟩
        have HN3 := Lib.hid hn3
        clear hn3
        go_wp2_with fail
        go_roundw
        case rel => have := HJ.out; have := of_decide_eq_true hq; exact ⟨j + 1, by omega, by go_num, by rw [Nat.min_eq_left (by omega)]; exact HN3⟩
        case measure => have := HJ.out; simp [intOf]; omega
      · rw [sendM_full (by rw [range_pk]; omega)] at hs
        dsimp only at hs
        rw [show ((0 : Nat) : Int) = 0 from rfl] at hs
        have hq : decide ((j : Int) < 64) = false := decide_eq_false (by omega)
        refine hs.mono ?_
        clear hs hx h64
        rintro e w3 ⟨rfl, hn3⟩
        have HN3 := Lib.hid hn3
        clear hn3
        go_wp2_with fail
        go_roundw
        case rel => have := HJ.out; have := of_decide_eq_false hq; exact ⟨j + 1, by omega, by go_num, by rw [Nat.min_eq_right (by omega)]; rw [Nat.min_eq_right (by omega)] at HN3; exact HN3⟩
        case measure => have := HJ.out; simp [intOf]; omega
    · have hjN : j = N := by omega
      have hy : ¬ (j : Int) < (N : Int) := by omega
      subst hjN
      obtain ⟨L, hL⟩ : ∃ L, L = min j 64 := ⟨_, rfl⟩
      rw [← hL] at HR
      have HLB : Hid (L ≤ 64) := Lib.hid (by omega)
      have hmin : min (j : Int) 64 = (L : Int) := by omega
      have HMIN := Lib.hid hmin
      obtain ⟨i0, hi, hz0, hzz1, hz2⟩ := info_parts Try.infoBool
      clear hlt hj h1 h2 h3 hL hmin
      go_wp2_with (first | (refine wpList_make1 _ rfl _ _ 82 rfl 4 i0 (.bool false) 1 Try.underlying82 hi hz0 hzz1 hz2 rfl .i64 .i64 100 100 100 rfl rfl rfl rfl (by decide) (by decide) ?_; intro w3 hown3 hb3) | fail)
      rw [HMIN.out]
      obtain ⟨gm, hgm⟩ : ∃ gm, gm = w2.heap.size := ⟨_, rfl⟩
      have HGM : Hid (w.heap.size ≤ gm) := Lib.hid (by rw [hgm]; exact (nin_all HR.out).size)
      have HO3 : Hid (w3.ownsRow w.heap.size 4 1 (.slice (some ⟨gm, 0, none⟩) 100 100) 100 ((List.replicate 100 false).map Value.bool)) := Lib.hid (by
        rw [List.map_replicate, hgm]
        exact own_mono hown3 (nin_all HR.out).size)
      have HN3 : Hid (NIn w w3 (fun k => k = gm) g ((List.range L).map pkO)) := Lib.hid (nin_less (nin_below HR.out hb3) (fun k hk => .inr (by
        have h1 := own_lt hown3 (k := gm) (by rw [hgm]; rfl)
        omega)))
      rw [← hgm]
      clear hown3 hb3 hgm
      go_loopw [8, 9] (fun l i wr => ∃ (ns : List Nat) (i' : Nat) (ms : List Bool) (q : Nat), Hid (q = ns.length) ∧ l = .int .i64 q ∧ i = .int .i64 i' ∧ Hid (i' + q = L) ∧ Hid (NIn w wr (fun k => k = gm) g (ns.map pkO)) ∧ Hid (MetB ns ms) ∧ Hid (wr.ownsRow w.heap.size 4 1 (.slice (some ⟨gm, 0, none⟩) 100 100) 100 (ms.map Value.bool))) (fun l _ _ => (intOf l).toNat)
      case atStart => exact ⟨List.range L, 0, List.replicate 100 false, L, Lib.hid (by simp), rfl, rfl, Lib.hid (by omega), HN3, Lib.hid (metB_start L HLB.out), HO3⟩
      case round =>
        obtain ⟨ns, i', ms, q, HQL, rfl, rfl, HIL, HR2, HMB2, HO⟩ := hrel
        obtain ⟨w4, hw4⟩ : ∃ w4 : World, w4 = wr := ⟨_, rfl⟩
        subst hw4
        have hz := zero_cells Try.infoPkz
        by_cases hq : 0 < q
        · have hq0 : (0 : Int) < (q : Int) := by omega
          have hqb : (q : Int) ≤ 64 := by have := HIL.out; have := HLB.out; omega
          have hib : (i' : Int) ≤ 64 := by have := HIL.out; have := HLB.out; omega
          by_cases hio : i' < m
          · obtain ⟨y, hy2⟩ : ∃ y, os[i']? = some y := ⟨_, List.getElem?_eq_getElem (by rw [← HM.out]; exact hio)⟩
            obtain ⟨ob, oo, rfl, hoc⟩ := HOC.out.resolve_left (fun e => by rw [e] at hy2; simp at hy2)
            have hcy0 := hoc i' y hy2
            have hcy : w4.cell? ⟨ob, oo + i', none⟩ = some (.int .i64 y) := by rw [(nin_all HR2.out).cell (block_of_cell hcy0)]; exact hcy0
            have hyr := HRI.out.1 y (List.mem_of_getElem? hy2)
            have HRO := Lib.hid (round_any y q w4 hyr (by omega))
            have hio2 : (i' : Int) < (m : Int) := by omega
            have HQ0 := Lib.hid hq
            clear hoc hcy0 hyr hy2 hio hq
            go_wp2_with fail
            refine (HRO.out).mono ?_
            rintro e w5 ⟨⟨r, hr, rfl⟩, hw5⟩
            cases hw5
            obtain ⟨x, hx⟩ : ∃ x, ns[r]? = some x := ⟨_, List.getElem?_eq_getElem (by rw [← HQL.out]; exact hr)⟩
            have hme := metB_next HMB2.out hx
            have hd := nin_deliver HR2.out (k := r) (p := ⟨1, 2, [UInt8.ofNat x]⟩) (by rw [List.getElem?_map, hx]; rfl) (by rw [List.length_map, ← HQL.out]; omega)
            dsimp only at hd
            have hx64 : x < 64 := hme.2.1
            have hx1 : (x : Int) < 64 := by omega
            have HD := Lib.hid hd
            have HME := Lib.hid hme
            have HXF := Lib.hid hme.2.2.1
            have HEL := Lib.hid hme.2.2.2
            clear hx hme hd hr hcy HRO
            go_wp2_with fail
            refine (HD.out).mono ?_
            clear HD
            rintro e w5 ⟨a5, c5, rfl, ho5, hn5, hst5⟩
            obtain ⟨gb, rfl, hc5⟩ := own_byte ho5
            have hbv : (((UInt8.ofNat x).toNat : Nat) : Int) = (x : Int) := by rw [UInt8.toNat_ofNat', Nat.mod_eq_of_lt (by omega)]
            rw [hbv] at hc5
            have hm5 : w5.ownsRow w.heap.size 4 1 (.slice (some ⟨gm, 0, none⟩) 100 100) 100 (ms.map Value.bool) := own_same HO.out (fun k hk => by
              cases hk
              exact hst5.1 gm rfl)
            have hb6 := below_more (Below.refl _ w5) (.cells #[.int .i64 1, .int .i64 2, .slice (some ⟨gb, 0, none⟩) 1 c5] 71)
            have hm6 := own_below hm5 hb6
            have hn6 := nin_less (Z' := fun k => k = gm) (nin_below hn5 hb6) (fun k hk => .inl hk)
            have hc6 := cell_more hc5 (.cells #[.int .i64 1, .int .i64 2, .slice (some ⟨gb, 0, none⟩) 1 c5] 71)
            have hcm : (w5.alloc (.cells #[.int .i64 1, .int .i64 2, .slice (some ⟨gb, 0, none⟩) 1 c5] 71)).cell? ⟨gm, x, none⟩ = some (.bool false) := (World.ownsRow.cellAt hm6 x (by omega)).trans (by rw [List.getElem?_map, HXF.out]; rfl)
            have hfm : (w5.alloc (.cells #[.int .i64 1, .int .i64 2, .slice (some ⟨gb, 0, none⟩) 1 c5] 71)).frozen? ⟨gm, x, none⟩ = false := World.ownsRow.frozenAt hm6 x
            have HN7 := Lib.hid (nin_put hn6 rfl HGM.out (met_ty hm6) x (.bool true))
            have HO7 : Hid (((w5.alloc (.cells #[.int .i64 1, .int .i64 2, .slice (some ⟨gb, 0, none⟩) 1 c5] 71)).setCell ⟨gm, x, none⟩ (.bool true)).ownsRow w.heap.size 4 1 (.slice (some ⟨gm, 0, none⟩) 100 100) 100 ((ms.set x true).map Value.bool)) := Lib.hid (by
              rw [List.map_set]
              exact (World.ownsRow.stored hm6 x (.bool true)).1)
            clear ho5 hn5 hst5 hc5 hbv hm5 hb6 hm6 hn6
            dsimp only [List.length_cons, List.length_nil, Nat.zero_add]
            go_wp2_with (first | (refine wpList_alloc_z rfl 71 rfl #[.int .i64 0, .int .i64 0, .slice none 0 0] hz ?_) | fail)
            go_roundw
            case rel =>
              have h1 := HEL.out
              have h2 := HQL.out
              have h3 := HIL.out
              refine ⟨ns.eraseIdx r, i' + 1, ms.set x true, q - 1, Lib.hid (by omega), by go_num, by go_num, Lib.hid (by omega), ?_, HME.out.1 |> Lib.hid, HO7⟩
              rw [← map_erase]
              exact HN7
            case measure => simp [intOf]; omega
          · have hio2 : ¬ (i' : Int) < (m : Int) := by omega
            obtain ⟨x, hx⟩ : ∃ x, ns[0]? = some x := ⟨_, List.getElem?_eq_getElem (by rw [← HQL.out]; exact hq)⟩
            have hme := metB_next HMB2.out hx
            have hd := nin_deliver HR2.out (k := 0) (p := ⟨1, 2, [UInt8.ofNat x]⟩) (by rw [List.getElem?_map, hx]; rfl) (by rw [List.length_map, ← HQL.out]; omega)
            dsimp only at hd
            rw [show ((0 : Nat) : Int) = 0 from rfl] at hd
            have hx64 : x < 64 := hme.2.1
            have hx1 : (x : Int) < 64 := by omega
            have HD := Lib.hid hd
            have HME := Lib.hid hme
            have HXF := Lib.hid hme.2.2.1
            have HEL := Lib.hid hme.2.2.2
            have HQ0 := Lib.hid hq
            clear hx hme hd hio hq
            go_wp2_with fail
            refine (HD.out).mono ?_
            clear HD
            rintro e w5 ⟨a5, c5, rfl, ho5, hn5, hst5⟩
            obtain ⟨gb, rfl, hc5⟩ := own_byte ho5
            have hbv : (((UInt8.ofNat x).toNat : Nat) : Int) = (x : Int) := by rw [UInt8.toNat_ofNat', Nat.mod_eq_of_lt (by omega)]
            rw [hbv] at hc5
            have hm5 : w5.ownsRow w.heap.size 4 1 (.slice (some ⟨gm, 0, none⟩) 100 100) 100 (ms.map Value.bool) := own_same HO.out (fun k hk => by
              cases hk
              exact hst5.1 gm rfl)
            have hb6 := below_more (Below.refl _ w5) (.cells #[.int .i64 1, .int .i64 2, .slice (some ⟨gb, 0, none⟩) 1 c5] 71)
            have hm6 := own_below hm5 hb6
            have hn6 := nin_less (Z' := fun k => k = gm) (nin_below hn5 hb6) (fun k hk => .inl hk)
            have hc6 := cell_more hc5 (.cells #[.int .i64 1, .int .i64 2, .slice (some ⟨gb, 0, none⟩) 1 c5] 71)
            have hcm : (w5.alloc (.cells #[.int .i64 1, .int .i64 2, .slice (some ⟨gb, 0, none⟩) 1 c5] 71)).cell? ⟨gm, x, none⟩ = some (.bool false) := (World.ownsRow.cellAt hm6 x (by omega)).trans (by rw [List.getElem?_map, HXF.out]; rfl)
            have hfm : (w5.alloc (.cells #[.int .i64 1, .int .i64 2, .slice (some ⟨gb, 0, none⟩) 1 c5] 71)).frozen? ⟨gm, x, none⟩ = false := World.ownsRow.frozenAt hm6 x
            have HN7 := Lib.hid (nin_put hn6 rfl HGM.out (met_ty hm6) x (.bool true))
            have HO7 : Hid (((w5.alloc (.cells #[.int .i64 1, .int .i64 2, .slice (some ⟨gb, 0, none⟩) 1 c5] 71)).setCell ⟨gm, x, none⟩ (.bool true)).ownsRow w.heap.size 4 1 (.slice (some ⟨gm, 0, none⟩) 100 100) 100 ((ms.set x true).map Value.bool)) := Lib.hid (by
              rw [List.map_set]
              exact (World.ownsRow.stored hm6 x (.bool true)).1)
            clear ho5 hn5 hst5 hc5 hbv hm5 hb6 hm6 hn6
            dsimp only [List.length_cons, List.length_nil, Nat.zero_add]
            go_wp2_with (first | (refine wpList_alloc_z rfl 71 rfl #[.int .i64 0, .int .i64 0, .slice none 0 0] hz ?_) | fail)
            go_roundw
            case rel =>
              have h1 := HEL.out
              have h2 := HQL.out
              have h3 := HIL.out
              refine ⟨ns.eraseIdx 0, i' + 1, ms.set x true, q - 1, Lib.hid (by omega), by go_num, by go_num, Lib.hid (by omega), ?_, HME.out.1 |> Lib.hid, HO7⟩
              rw [← map_erase]
              exact HN7
            case measure => simp [intOf]; omega
        · have hq0 : ¬ (0 : Int) < (q : Int) := by omega
          have hns : ns = [] := List.eq_nil_of_length_eq_zero (by rw [← HQL.out]; omega)
          subst hns
          have HLN := Lib.hid (nin_len HR2.out)
          have HB4 := Lib.hid (nin_all HR2.out)
          clear hq
          go_wp2_with fail
          refine (HLN.out).mono ?_
          rintro e w5 ⟨rfl, hw5⟩
          cases hw5
          go_wp2_with fail
          refine (nawake_any w4).mono ?_
          rintro e w8 ⟨rfl, hb8⟩
          have HB8 := Lib.hid (HB4.out.trans (hb8.mono HB4.out.size))
          clear hb8
          go_wp2_with fail
          go_ret
          exact ⟨rfl, HB8.out⟩

theorem netOnce_own : ownKnob Try.prog.godebug = none := by kernel_rfl

set_option maxRecDepth 100000 in
theorem netOnce_lifted (os : Os) (started : os.Started) (H : Type) (enc : TypeId × Value → H) :
    ReturnsInHanded {} Try.checked os 9 .any (Rows.netOnceSpec.pre6 enc Try.prog Try.f9 Rows.netOnceRow.domain false) (Rows.netOnceSpec.post enc Try.prog Try.f9 false true false false) := by
  refine law_lifted (C := Try.checked) netOnce_own started (by kernel_rfl) Try.func9
    (ChangeSpec.witness6 (enc := enc) (C := Try.checked) false ⟨#[], #[.int .i64 0, .slice none 0 0], []⟩ 8 (by kernel_rfl) (by kernel_rfl) (by kernel_rfl) (by kernel_rfl))
    (by kernel_rfl) (of_decide_eq_true (by kernel_rfl)) (tb := 4) (by kernel_rfl) Try.underlying4 rfl (fun ds h => by match ds, h with | [d0, d1], _ => exact ⟨rfl, rfl, rfl⟩) ?_
  intro W base args ds p hval0 hA0 hlt hsz0
  have hval : ∀ (j : Nat) t v, Try.f9.params[j]? = some t → args[j]? = some v → Value.okWide Try.prog W .any base t v := hval0
  have hA : DataW.TrodAll enc Try.prog W 0 (fun _ => true) true Try.f9.params.toList args.toList ds p := hA0
  have hsz : (DataW.weightsEach Try.prog Try.f9.params.toList ds).all (· ≤ reachBytes) = true := hsz0
  rw [Try.params9] at hA hval hsz
  obtain ⟨v0, vs0, d0, ds0, p0, q0, hargs, rfl, rfl, h0, r0⟩ := trodAll_cons hA
  obtain ⟨v1, vs1, d1, ds1, p1, q1, rfl, rfl, rfl, h1, r1⟩ := trodAll_cons r0
  obtain ⟨rfl, rfl, rfl⟩ := trodAll_nil r1
  obtain rfl : args = #[v0, v1] := by cases args; simp_all
  have s1 := sized_at hsz (j := 1) (t := 34) (d := d1) rfl rfl
  obtain ⟨a0, rfl, rfl, rfl, w0⟩ := open_int Try.underlying3 (hval 0 3 v0 rfl rfl) h0
  obtain ⟨a1, g1, z1⟩ := open_picks Try.underlying34 Try.underlying3 (by kernel_rfl) (by kernel_rfl) (hval 1 34 v1 rfl rfl) h1 s1
  exact netOnce_any (w := W) a0 (bounds_i64 w0) v1 a1 g1 z1

theorem netOnce_over : Rows.netOnceRow.holds Try.pinned (OpenSpec.ofChange Rows.netOnceSpec) :=
  OpenClaim.holds_of_wide 9 Try.f9 rfl rfl rfl rfl rfl rfl rfl ⟨rfl, rfl, rfl, rfl, rfl⟩ rfl rfl rfl rfl rfl (by kernel_rfl) Try.func9 (by kernel_rfl)
    (of_decide_eq_true (by kernel_rfl)) (by unfold Func.isWrapper; first | (rw [if_pos (by decide +kernel)]; kernel_rfl) | (rw [if_neg (by decide +kernel)]; exact ⟨rfl, rfl⟩))
    (fun os started H enc _ => netOnce_lifted os started H enc)

theorem netOnce_proved : Rows.NetOnceSaid := netOnce_over
#print axioms netOnce_proved

end Go.Proofs.Ytmchdfdpajobfaa
