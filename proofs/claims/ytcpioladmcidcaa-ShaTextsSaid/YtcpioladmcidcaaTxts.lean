/-
  ShaTexts: for every slice of bytes and every text a sum is written as digits, and a text is read as a sum or refused; the law returns true, and what was there has not turned. No condition.
-/
import Derived.Deep.RegionHeld3
import Derived.BigRegion
import Derived.Test.YtcpioladmcidcaaProg
import Derived.Test.YtcpioladmcidcaaKit
import Derived.Test.YtcpioladmcidcaaLaw
import Derived.Test.YtcpioladmcidcaaInfo
import Derived.Test.YtcpioladmcidcaaRow
import Derived.Test.YtcpioladmcidcaaCod5
import Derived.Test.YtcpioladmcidcaaCod7
import Derived.Test.YtcpioladmcidcaaCod8
import Derived.Test.YtcpioladmcidcaaCod9
import Derived.Test.YtcpioladmcidcaaLaw2
import Derived.Test.YtcpioladmcidcaaOwn
import Derived.Test.YtcpioladmcidcaaLens
import Derived.Test.YtcpioladmcidcaaGoes
import Derived.Test.YtcpioladmcidcaaTxt0
import Derived.Test.YtcpioladmcidcaaTxt1
import Derived.Test.YtcpioladmcidcaaTxt2
import Derived.Test.YtcpioladmcidcaaTxt3
import Derived.Test.YtcpioladmcidcaaTxt4
import Derived.Test.YtcpioladmcidcaaTxt5
namespace Go.Proofs.Ytcpioladmcidcaa
open Go.ChangeShapes Go.WideShapes Go.ChangeAt Go.RowKit Go.Proofs
open Go.ChangeMaps (open_string shut_string)

/-- What stands: some blocks of the call's own, and all that was. -/
def TxtAt (w : World) (gH : Nat) (rows : List (Nat × TypeId × List Value)) (W : World) : Prop := Below gH w W ∧ ∀ r ∈ rows, Rw W gH r.1 r.2.1 r.2.2

theorem TxtAt.next {w W W' : World} {gH : Nat} {rows : List (Nat × TypeId × List Value)} (h : TxtAt w gH rows W) (hg : gH ≤ W.heap.size) (hb : Below W.heap.size W W') : TxtAt w gH rows W' :=
  ⟨h.1.trans (hb.mono hg), fun r hr => (h.2 r hr).below hb⟩

theorem TxtAt.push {w W : World} {gH : Nat} {rows : List (Nat × TypeId × List Value)} (h : TxtAt w gH rows W) (hg : gH ≤ W.heap.size) (e : TypeId) (Z : Array Value) (xs : List Value) (hl : Z.toList.length = xs.length) :
    TxtAt w gH ((W.heap.size, e, xs) :: rows) ((W.alloc (.cells Z e)).setCells W.heap.size 0 xs) := by
  refine ⟨below_setCells hg _ _ _ (h.1.alloc hg _), fun r hr => ?_⟩
  rcases List.mem_cons.1 hr with rfl | hr
  · exact (Rw.alloc W e Z hg).storedAll xs hl
  · exact ((h.2 r hr).more _).otherAll (by have := (h.2 r hr).size; omega) _ _

theorem TxtAt.row {w W : World} {gH g : Nat} {e : TypeId} {xs : List Value} {rows : List (Nat × TypeId × List Value)} (h : TxtAt w gH rows W) (hm : (g, e, xs) ∈ rows) : Rw W gH g e xs := h.2 _ hm

/-- All that the last test reads. -/
def FourAt (w : World) (gH g7 g9 g11 : Nat) (e e' : TypeId) (BV PV : List Value) (W : World) : Prop := TxtAt w gH [(g11, e, BV), (g9, e', PV), (g7, e, PV), (gH, e, BV)] W ∧ gH ≤ W.heap.size

theorem FourAt.next {w W W' : World} {gH g7 g9 g11 : Nat} {e e' : TypeId} {BV PV : List Value} (h : FourAt w gH g7 g9 g11 e e' BV PV W) (hb : Below W.heap.size W W') : FourAt w gH g7 g9 g11 e e' BV PV W' := ⟨h.1.next h.2 hb, Nat.le_trans h.2 hb.size⟩

theorem FourAt.five {w W : World} {gH g7 g9 g11 : Nat} {e e' : TypeId} {BV PV : List Value} (h : FourAt w gH g7 g9 g11 e e' BV PV W) : FourAt w gH g7 g9 g11 e e' BV PV W ∧ W.rangeAt gH 0 BV ∧ W.rangeAt g7 0 PV ∧ W.rangeAt g9 0 PV ∧ W.rangeAt g11 0 BV :=
  ⟨h, (h.1.row (by simp : (gH, e, BV) ∈ _)).whole, (h.1.row (by simp : (g7, e, PV) ∈ _)).whole, (h.1.row (by simp : (g9, e', PV) ∈ _)).whole, (h.1.row (by simp : (g11, e, BV) ∈ _)).whole⟩

theorem FourAt.on {w W W' : World} {gH g7 g9 g11 : Nat} {e e' : TypeId} {BV PV : List Value} (h : FourAt w gH g7 g9 g11 e e' BV PV W ∧ W.rangeAt gH 0 BV ∧ W.rangeAt g7 0 PV ∧ W.rangeAt g9 0 PV ∧ W.rangeAt g11 0 BV) (hb : Below W.heap.size W W') :
    FourAt w gH g7 g9 g11 e e' BV PV W' ∧ W'.rangeAt gH 0 BV ∧ W'.rangeAt g7 0 PV ∧ W'.rangeAt g9 0 PV ∧ W'.rangeAt g11 0 BV := (h.1.next hb).five

theorem FourAt.sl32 {w W : World} {gH g7 g9 g11 : Nat} {e e' : TypeId} {BV PV : List Value} (h : FourAt w gH g7 g9 g11 e e' BV PV W ∧ W.rangeAt gH 0 BV ∧ W.rangeAt g7 0 PV ∧ W.rangeAt g9 0 PV ∧ W.rangeAt g11 0 BV) (hl : BV.length = 32) (c : Nat) : SliceAt W (.slice (some ⟨gH, 0, none⟩) 32 c) BV :=
  ⟨_, c, by rw [hl], .inr ⟨gH, 0, rfl, fun j x hj => by rw [Nat.zero_add]; exact (h.1.1.row (by simp : (gH, e, BV) ∈ _)).cell hj⟩⟩

/-! A region op by op, where an array that is long is loaded more than once: each op that yields in every world that meets S is taken in its turn. -/
theorem op_at {l m : List Oper} {i : Nat} {o : Oper} (h : l.drop i = o :: m) : l.toArray[i]? = some o := by
  have h1 : (l.drop i)[0]? = some o := by rw [h]; rfl
  rw [List.getElem?_drop] at h1
  simpa using h1

theorem take_op {P : Program} {Q : Exit → Act → World → Prop} {md : Region.Mode} {S : World → Prop} {l m : List Oper} (i : Nat) {oi : Oper} {v : Value} {d : Tmp} {fuel : Nat} {listed : Array Bool} {a : Act} {w : World} (hi : l.drop i = oi :: m) (hd : oi.dst = some d)
    (hs : Region.noSelect l.toArray = true) (hf : Region.free md l.toArray listed i = true) (hr : (Region.ready md l.toArray listed).contains i = true)
    (hQ : ∀ c a w, Q (.panic c) (a.put oi.dst v) w → Q (.panic c) a w) (hy : YieldsIf P l.toArray S oi v a) (hS : S w)
    (h : wpAnyH P md l.toArray Q S fuel (listed.setIfInBounds i true) { a with tmps := a.tmps.setIfInBounds d v } w) : wpAnyH P md l.toArray Q S (fuel + 1) listed a w :=
  wpAnyH_take (op_at hi) hs hf hr hQ hy hS (by rw [hd]; exact h)

set_option maxRecDepth 100000 in
set_option maxHeartbeats 4000000 in
theorem shaTexts_any (v : Value) (l : List UInt8) (w : World) (hv : ByteSl w w.heap.size v l) (hl : l.length ≤ 140737488351232) (t : ByteArray) (_ht : t.size ≤ 140737488351232) :
    Calls Try.prog 4 #[v, .string t] w fun e w' => e = .returned (.bool true) ∧ Below w.heap.size w w' := by
  obtain ⟨a, c, rfl⟩ : ∃ a c, v = .slice a l.length c := by
    rcases hv with ⟨rfl, rfl⟩ | ⟨ad, c, rfl, _, _⟩
    · exact ⟨none, 0, rfl⟩
    · exact ⟨_, _, rfl⟩
  obtain ⟨N, hN⟩ : ∃ N, N = l.length := ⟨_, rfl⟩
  rw [← hN] at hv hl ⊢
  have HV := Lib.hid hv
  have HN := Lib.hid hN
  clear hv hN
  by_cases h7 : (700 : Int) < (N : Int)
  · go_enter Try.func4, Try.ntmps4
    go_wp2_with fail
    refine (awake_any _).mono ?_
    rintro e w' ⟨rfl, hb1⟩
    have HB := Lib.hid hb1
    clear hb1
    go_wp2
    go_ret
    exact ⟨rfl, HB.out⟩
  by_cases h8 : (700 : Int) < (t.size : Int)
  · go_enter Try.func4, Try.ntmps4
    go_wp2_with fail
    refine (awake_any _).mono ?_
    rintro e w' ⟨rfl, hb1⟩
    have HB := Lib.hid hb1
    clear hb1
    go_wp2
    go_ret
    exact ⟨rfl, HB.out⟩
  obtain ⟨Z, hz, hZ⟩ : ∃ Z, (∀ w, (zeroValue 27).run Try.prog w = .ok (.agg Z) w) ∧ Z = Array.replicate 32 (.int .u8 0) := ⟨_, zero_cells Try.infoHash, rfl⟩
  obtain ⟨Y, hy, hY⟩ : ∃ Z, (∀ w, (zeroValue 26).run Try.prog w = .ok (.agg Z) w) ∧ Z = Array.replicate 32 (.int .u8 0) := ⟨_, zero_cells Try.infoB32, rfl⟩
  have hZl : Z.toList.length = 32 := by rw [hZ]; simp
  have hYl : Y.toList.length = 32 := by rw [hY]; simp
  have hr0 : Rw (w.alloc (.cells Z 27)) w.heap.size w.heap.size 27 ((pad32 l 0).map byteV) := by
    have h := Rw.alloc w 27 Z (base := w.heap.size) (Nat.le_refl _)
    have e : Z.toList = (pad32 l 0).map byteV := by rw [hZ]; unfold pad32; rw [List.take_zero]; rfl
    rw [e] at h
    exact h
  have hb0 : Below w.heap.size w (w.alloc (.cells Z 27)) := below_more (Below.refl _ _) _
  obtain ⟨gH, hgH⟩ : ∃ gH, gH = w.heap.size := ⟨_, rfl⟩
  have HR0 := Lib.hid hr0
  have HB0 := Lib.hid hb0
  have HZL := Lib.hid hZl
  have HYL := Lib.hid hYl
  have HGH := Lib.hid hgH
  have HIH : Hid ((Try.prog.info? 27).map (·.size) = some 32) := Lib.hid Try.infoHashn
  have HI32 : Hid ((Try.prog.info? 26).map (·.size) = some 32) := Lib.hid Try.infoB32n
  clear hZ hY hZl hYl hr0 hb0
  go_enter Try.func4, Try.ntmps4
  go_wp2_with (refine wpList_alloc_z rfl 27 rfl Z hz ?_)
  generalize w.alloc (.cells Z 27) = w0 at HR0 HB0 ⊢
  simp only [← hgH]
  rw [← hgH] at HR0 HB0
  clear hgH h7 h8
  go_loopw [6] (fun i wr => ∃ k : Nat, k ≤ 32 ∧ k ≤ N ∧ i = .int .i64 k ∧ Hid (Rw wr gH gH 27 ((pad32 l k).map byteV)) ∧ Hid (Below gH w wr)) (fun i _ => 32 - (intOf i).toNat)
  case atStart => exact ⟨0, by omega, by omega, rfl, HR0, HB0⟩
  case round =>
    clear HR0 HB0
    obtain ⟨k, hk, hkN, rfl, HR, HB⟩ := hrel
    obtain ⟨w1, hw1⟩ : ∃ w1 : World, w1 = wr := ⟨_, rfl⟩
    subst hw1
    by_cases hlt : k < 32 ∧ k < N
    · obtain ⟨h1, h2⟩ := hlt
      obtain ⟨x, hx⟩ : ∃ x, l[k]? = some x := ⟨_, List.getElem?_eq_getElem (by rw [← HN.out]; exact h2)⟩
      have hne : l ≠ [] := by intro e; rw [e] at hx; simp at hx
      obtain ⟨a', c', hsv, _, hli⟩ := HV.out.part
      injection hsv with q1 q2 q3
      subst q1; subst q3
      obtain ⟨b, o, rfl, hbw, hby⟩ := hli.resolve_left hne
      have hcx : w1.cell? ⟨b, o + k, none⟩ = some (.int .u8 (x.toNat : Int)) := (HB.out.cell (p := ⟨b, o + k, none⟩) (by rw [HGH.out]; exact hbw)).trans (hby k x hx)
      have hcz : w1.cell? ⟨gH, k, none⟩ = some (.int .u8 0) := HR.out.cell (by rw [List.getElem?_map, pad32_zero h1 (by rw [← HN.out]; omega)]; rfl)
      have hfz := HR.out.free k
      have HSET := Lib.hid (pad32_set h1 hx)
      have hy1 : (k : Int) < 32 := by omega
      have hy2 : (k : Int) < (N : Int) := by omega
      have H1 := Lib.hid h1
      have H2 := Lib.hid h2
      clear hx hne q2 hli hbw hby hk hkN
      go_wp2
      go_roundw
      case rel =>
        have h1 := H1.out
        have h2 := H2.out
        refine ⟨k + 1, by omega, by omega, by go_num, Lib.hid ?_, Lib.hid (HB.out.setCell (Nat.le_refl _) _)⟩
        rw [← HSET.out]
        exact HR.out.stored _ _
      case measure => have h1 := H1.out; simp [intOf]; omega
    · have hex : ¬ k < 32 ∨ (k < 32 ∧ ¬ k < N) := by omega
      have hB32 : (pad32 l k).length = 32 := pad32_len hk (by rw [← HN.out]; exact hkN)
      obtain ⟨B, hB⟩ : ∃ B, B = pad32 l k := ⟨_, rfl⟩
      rw [← hB] at HR hB32
      obtain ⟨BV, hBV⟩ : ∃ BV, BV = B.map byteV := ⟨_, rfl⟩
      obtain ⟨PV, hPV⟩ : ∃ PV, PV = (parR t.data.toList).map byteV := ⟨_, rfl⟩
      obtain ⟨ok, hok⟩ : ∃ ok, ok = parOk t.data.toList := ⟨_, rfl⟩
      obtain ⟨T, hT⟩ : ∃ T : ByteArray, T = ⟨(hexS B).toArray⟩ := ⟨_, rfl⟩
      have hBVl : BV.length = 32 := by rw [hBV, List.length_map, hB32]
      have hPVl : PV.length = 32 := by rw [hPV, List.length_map, parR_len]
      have hBV1 : ∀ v ∈ BV, v.oneCell' = true := by rw [hBV]; exact byteV_one
      have hPV1 : ∀ v ∈ PV, v.oneCell' = true := by rw [hPV]; exact byteV_one
      have hparV : parV t.data.toList = .tuple #[.agg PV.toArray, .bool ok] := by rw [hPV, hok]; rfl
      have HPA := Lib.hid (fun W : World => parse_any t W)
      have HPR := Lib.hid (fun W : World => refparse_any t W)
      have HPT := Lib.hid (fun W : World => parse_any T W)
      have HTX := Lib.hid (fun W : World => text_any B hB32 W)
      have HHX := Lib.hid (fun (v : Value) (W : World) (h : SliceAt W v (B.map byteV)) => hex_any v B (by omega) W h)
      rw [hparV] at HPA HPR
      rw [show parV T.data.toList = .tuple #[.agg BV.toArray, .bool true] from by rw [hT, hBV]; exact parV_hex hB32] at HPT
      rw [← hBV, ← hT] at HTX
      rw [← hBV, ← hT] at HHX
      rw [← hBV] at HR
      have heB : ∀ W : World, (Op.equalIn 10000 27 (.agg BV.toArray) (.agg BV.toArray)).run Try.prog W = .ok true W := fun W => by
        rw [hBV, eq_bytes Try.underlying27 Try.underlying5 (zero_of_info3 Try.infoByte) _ _ hB32 hB32 W]
        simp
      have heP : ∀ W : World, (Op.equalIn 10000 27 (.agg PV.toArray) (.agg PV.toArray)).run Try.prog W = .ok true W := fun W => by
        rw [hPV, eq_bytes Try.underlying27 Try.underlying5 (zero_of_info3 Try.infoByte) _ _ (parR_len _) (parR_len _) W]
        simp
      have HBL := Lib.hid hBVl
      have HPL := Lib.hid hPVl
      have HB1 := Lib.hid hBV1
      have HP1 := Lib.hid hPV1
      have HIB : Hid ((Try.prog.info? 27).map (·.size) = some BV.length) := Lib.hid (by rw [hBVl]; exact HIH.out)
      have HIP : Hid ((Try.prog.info? 27).map (·.size) = some PV.length) := Lib.hid (by rw [hPVl]; exact HIH.out)
      have HIQ : Hid ((Try.prog.info? 26).map (·.size) = some PV.length) := Lib.hid (by rw [hPVl]; exact HI32.out)
      have HZB : Hid (Z.toList.length = BV.length) := Lib.hid (by rw [HZL.out, hBVl])
      have HZP : Hid (Z.toList.length = PV.length) := Lib.hid (by rw [HZL.out, hPVl])
      have HYP : Hid (Y.toList.length = PV.length) := Lib.hid (by rw [HYL.out, hPVl])
      have ht1 : TxtAt w gH [(gH, 27, BV)] w1 := ⟨HB.out, fun r hr => by rw [List.mem_singleton.1 hr]; exact HR.out⟩
      have HT1 := Lib.hid ht1
      have HG1 : Hid (gH ≤ w1.heap.size) := Lib.hid (Nat.le_of_lt HR.out.size)
      clear hlt hB hB32 hk hkN hBV hPV hok hT hBVl hPVl hBV1 hPV1 hparV ht1 HR HB
      rcases hex with h1 | ⟨h1, h2⟩
      case' inl => have hy1 : ¬ (k : Int) < 32 := by omega
      case' inr =>
        have hy1 : (k : Int) < 32 := by omega
        have hy2 : ¬ (k : Int) < (N : Int) := by omega
      all_goals
        go_wp2_with fail
        refine (HPA.out w1).mono ?_
        rintro e w2 ⟨rfl, hb2⟩
        have HT2 := Lib.hid (HT1.out.next HG1.out hb2)
        have HG2 := Lib.hid (Nat.le_trans HG1.out hb2.size)
        have hr2 := Rw.alloc w2 27 Z (base := gH) HG2.out
        have HR2 := Lib.hid hr2
        obtain ⟨g7, hg7⟩ : ∃ g7, g7 = w2.heap.size := ⟨_, rfl⟩
        obtain ⟨w3, hw3⟩ : ∃ w3, w3 = (w2.alloc (.cells Z 27)).setCells w2.heap.size 0 PV := ⟨_, rfl⟩
        have HT3 : Hid (TxtAt w gH [(g7, 27, PV), (gH, 27, BV)] w3) := Lib.hid (by rw [hw3, hg7]; exact HT2.out.push HG2.out _ _ _ HZP.out)
        have HG3 : Hid (gH ≤ w3.heap.size) := Lib.hid (Nat.le_trans HG2.out (by rw [hw3]; exact (below_setCells (Nat.le_refl _) PV 0 _ (below_more (Below.refl w2.heap.size w2) _)).size))
        have HW3 := Lib.hid hw3
        have HG7 := Lib.hid hg7
        clear hb2 hr2 hw3 hg7 HT2 HT1
        go_wp2_with (first | (refine wpList_alloc_z rfl 27 rfl Z hz ?_) | (refine wpList_store_mid rfl 27 _ _ rfl w2.heap.size 0 PV.toArray rfl rfl (HR2.out.there 0 _ (by rw [HZP.out]; simp)) (by rw [HIP.out]; simp) (all_oneCell_toArray HP1.out) ?_; rw [← HW3.out]; simp only [← HG7.out]) | fail)
        refine (HPR.out w3).mono ?_
        rintro e w4 ⟨rfl, hb4⟩
        have HT4 := Lib.hid (HT3.out.next HG3.out hb4)
        have HG4 := Lib.hid (Nat.le_trans HG3.out hb4.size)
        have hr4 := Rw.alloc w4 26 Y (base := gH) HG4.out
        have HR4 := Lib.hid hr4
        obtain ⟨g9, hg9⟩ : ∃ g9, g9 = w4.heap.size := ⟨_, rfl⟩
        obtain ⟨w5, hw5⟩ : ∃ w5, w5 = (w4.alloc (.cells Y 26)).setCells w4.heap.size 0 PV := ⟨_, rfl⟩
        have HT5 : Hid (TxtAt w gH [(g9, 26, PV), (g7, 27, PV), (gH, 27, BV)] w5) := Lib.hid (by rw [hw5, hg9]; exact HT4.out.push HG4.out _ _ _ HYP.out)
        have HG5 : Hid (gH ≤ w5.heap.size) := Lib.hid (Nat.le_trans HG4.out (by rw [hw5]; exact (below_setCells (Nat.le_refl _) PV 0 _ (below_more (Below.refl w4.heap.size w4) _)).size))
        have HW5 := Lib.hid hw5
        have HG9 := Lib.hid hg9
        clear hb4 hr4 hw5 hg9 HT4 HT3
        go_wp2_with (first | (refine wpList_alloc_z rfl 26 rfl Y hy ?_) | (refine wpList_store_mid rfl 26 _ _ rfl w4.heap.size 0 PV.toArray rfl rfl (HR4.out.there 0 _ (by rw [HYP.out]; simp)) (by rw [HIQ.out]; simp) (all_oneCell_toArray HP1.out) ?_; rw [← HW5.out]; simp only [← HG9.out]) | (refine wpList_load_mid rfl 27 _ rfl gH 0 rfl BV _ (HT5.out.row (by simp : (gH, 27, BV) ∈ _)).whole Try.underlying27 rfl HIB.out ?_) | fail)
        refine (HTX.out w5).mono ?_
        rintro e w6 ⟨rfl, hb6⟩
        have HT6 := Lib.hid (HT5.out.next HG5.out hb6)
        have HG6 := Lib.hid (Nat.le_trans HG5.out hb6.size)
        clear hb6 HT5
        go_wp2_with fail
        refine (HPT.out w6).mono ?_
        rintro e w7 ⟨rfl, hb7⟩
        have HT7 := Lib.hid (HT6.out.next HG6.out hb7)
        have HG7' := Lib.hid (Nat.le_trans HG6.out hb7.size)
        have hr7 := Rw.alloc w7 27 Z (base := gH) HG7'.out
        have HR7 := Lib.hid hr7
        obtain ⟨g11, hg11⟩ : ∃ g11, g11 = w7.heap.size := ⟨_, rfl⟩
        obtain ⟨w8, hw8⟩ : ∃ w8, w8 = (w7.alloc (.cells Z 27)).setCells w7.heap.size 0 BV := ⟨_, rfl⟩
        have HT8 : Hid (TxtAt w gH [(g11, 27, BV), (g9, 26, PV), (g7, 27, PV), (gH, 27, BV)] w8) := Lib.hid (by rw [hw8, hg11]; exact HT7.out.push HG7'.out _ _ _ HZB.out)
        have HG8 : Hid (gH ≤ w8.heap.size) := Lib.hid (Nat.le_trans HG7'.out (by rw [hw8]; exact (below_setCells (Nat.le_refl _) BV 0 _ (below_more (Below.refl w7.heap.size w7) _)).size))
        have HW8 := Lib.hid hw8
        have HG11 := Lib.hid hg11
        clear hb7 hr7 hw8 hg11 HT7 HT6
        go_wp2_with (first | (refine wpList_alloc_z rfl 27 rfl Z hz ?_) | (refine wpList_store_mid rfl 27 _ _ rfl w7.heap.size 0 BV.toArray rfl rfl (HR7.out.there 0 _ (by rw [HZB.out]; simp)) (by rw [HIB.out]; simp) (all_oneCell_toArray HB1.out) ?_; rw [← HW8.out]; simp only [← HG11.out]) | fail)
        have hf8 : FourAt w gH g7 g9 g11 27 26 BV PV w8 := ⟨HT8.out, HG8.out⟩
        have HF8 := Lib.hid hf8
        clear hf8 HT8
        have hTT : (T.toList == T.toList) = true := by simp
        have hokk : (ok == ok) = true := by simp
        have hu27 := Try.underlying27
        have hu26 := Try.underlying26
        have hib := HIB.out
        have hip := HIP.out
        have hiq := HIQ.out
        refine wp_region_held_drew (S := (fun W => FourAt w gH g7 g9 g11 27 26 BV PV W ∧ W.rangeAt gH 0 BV ∧ W.rangeAt g7 0 PV ∧ W.rangeAt g9 0 PV ∧ W.rangeAt g11 0 BV)) (by kernel_rfl) (FourAt.five (FourAt.next HF8.out (below_draws (Below.refl _ _) ⟨1, rfl⟩))) (fun hHeld => ?_)
        refine take_op 0 (v := .agg BV.toArray) rfl rfl (by kernel_rfl) (by kernel_rfl) (by kernel_rfl) (fun _ _ _ h => h) (yieldsIf_load_mid (by rfl) 27 (.tmp 5) rfl gH 0 rfl BV _ (fun W hW => hW.2.1) hu27 rfl hib) (by assumption) ?_
        try simp only [List.setIfInBounds_toArray, List.set_cons_zero, List.set_cons_succ]
        refine take_op 2 (v := .slice (some ⟨gH, 0, none⟩) 32 32) rfl rfl (by kernel_rfl) (by kernel_rfl) (by kernel_rfl) (fun _ _ _ h => h) (Or.inl ⟨by rfl, fun W hSw => ?_⟩) (by assumption) ?_
        · go_simp
        try simp only [List.setIfInBounds_toArray, List.set_cons_zero, List.set_cons_succ]
        refine wpAnyH_ready (rs := [1]) (by kernel_rfl) (by simp) ?_
        refine AllReadyH.cons (op_at (o := _) rfl) (fun K hK => ?_) AllReadyH.nil
        first | (go_at_call 14; refine (HTX.out _).mono ?_; rintro e w' ⟨rfl, hb⟩) | (go_simp; go_at_call 14; refine (HTX.out _).mono ?_; rintro e w' ⟨rfl, hb⟩)
        refine hK.out _ _ ?_ (fun hHeld => ?_)
        · exact FourAt.on (by assumption) hb
        clear hK K
        try simp only [Act.put, List.setIfInBounds_toArray, List.set_cons_zero, List.set_cons_succ]
        refine wpAnyH_ready (rs := [3]) (by kernel_rfl) (by simp) ?_
        refine AllReadyH.cons (op_at (o := _) rfl) (fun K hK => ?_) AllReadyH.nil
        first | (go_at_call 15; refine (HHX.out _ _ (FourAt.sl32 (by assumption) HBL.out _)).mono ?_; rintro e w' ⟨rfl, hb⟩) | (go_simp; go_at_call 15; refine (HHX.out _ _ (FourAt.sl32 (by assumption) HBL.out _)).mono ?_; rintro e w' ⟨rfl, hb⟩)
        refine hK.out _ _ ?_ (fun hHeld => ?_)
        · exact FourAt.on (by assumption) hb
        clear hK K
        try simp only [Act.put, List.setIfInBounds_toArray, List.set_cons_zero, List.set_cons_succ]
        refine take_op 4 (v := .bool true) rfl rfl (by kernel_rfl) (by kernel_rfl) (by kernel_rfl) (fun _ _ _ h => h) (Or.inl ⟨by rfl, fun W hSw => ?_⟩) (by assumption) ?_
        · go_simp
        try simp only [List.setIfInBounds_toArray, List.set_cons_zero, List.set_cons_succ]
        refine take_op 5 (v := .bool true) rfl rfl (by kernel_rfl) (by kernel_rfl) (by kernel_rfl) (fun _ _ _ h => h) (Or.inl ⟨by rfl, fun W hSw => ?_⟩) (by assumption) ?_
        · go_simp
        try simp only [List.setIfInBounds_toArray, List.set_cons_zero, List.set_cons_succ]
        refine take_op 6 (v := .agg PV.toArray) rfl rfl (by kernel_rfl) (by kernel_rfl) (by kernel_rfl) (fun _ _ _ h => h) (yieldsIf_load_mid (by rfl) 27 (.tmp 7) rfl g7 0 rfl PV _ (fun W hW => hW.2.2.1) hu27 rfl hip) (by assumption) ?_
        try simp only [List.setIfInBounds_toArray, List.set_cons_zero, List.set_cons_succ]
        refine take_op 7 (v := .agg PV.toArray) rfl rfl (by kernel_rfl) (by kernel_rfl) (by kernel_rfl) (fun _ _ _ h => h) (yieldsIf_load_mid (by rfl) 26 (.tmp 9) rfl g9 0 rfl PV _ (fun W hW => hW.2.2.2.1) hu26 rfl hiq) (by assumption) ?_
        try simp only [List.setIfInBounds_toArray, List.set_cons_zero, List.set_cons_succ]
        refine take_op 8 (v := .bool true) rfl rfl (by kernel_rfl) (by kernel_rfl) (by kernel_rfl) (fun _ _ _ h => h) (Or.inl ⟨by rfl, fun W hSw => ?_⟩) (by assumption) ?_
        · go_simp
        try simp only [List.setIfInBounds_toArray, List.set_cons_zero, List.set_cons_succ]
        refine take_op 9 (v := .bool true) rfl rfl (by kernel_rfl) (by kernel_rfl) (by kernel_rfl) (fun _ _ _ h => h) (Or.inl ⟨by rfl, fun W hSw => ?_⟩) (by assumption) ?_
        · go_simp
        try simp only [List.setIfInBounds_toArray, List.set_cons_zero, List.set_cons_succ]
        refine take_op 10 (v := .bool true) rfl rfl (by kernel_rfl) (by kernel_rfl) (by kernel_rfl) (fun _ _ _ h => h) (Or.inl ⟨by rfl, fun W hSw => ?_⟩) (by assumption) ?_
        · go_simp
        try simp only [List.setIfInBounds_toArray, List.set_cons_zero, List.set_cons_succ]
        refine take_op 11 (v := .bool ok) rfl rfl (by kernel_rfl) (by kernel_rfl) (by kernel_rfl) (fun _ _ _ h => h) (Or.inl ⟨by rfl, fun W hSw => ?_⟩) (by assumption) ?_
        · go_simp
        try simp only [List.setIfInBounds_toArray, List.set_cons_zero, List.set_cons_succ]
        refine take_op 12 (v := .bool ok) rfl rfl (by kernel_rfl) (by kernel_rfl) (by kernel_rfl) (fun _ _ _ h => h) (Or.inl ⟨by rfl, fun W hSw => ?_⟩) (by assumption) ?_
        · go_simp
        try simp only [List.setIfInBounds_toArray, List.set_cons_zero, List.set_cons_succ]
        refine take_op 13 (v := .bool true) rfl rfl (by kernel_rfl) (by kernel_rfl) (by kernel_rfl) (fun _ _ _ h => h) (Or.inl ⟨by rfl, fun W hSw => ?_⟩) (by assumption) ?_
        · go_simp
        try simp only [List.setIfInBounds_toArray, List.set_cons_zero, List.set_cons_succ]
        refine take_op 14 (v := .bool true) rfl rfl (by kernel_rfl) (by kernel_rfl) (by kernel_rfl) (fun _ _ _ h => h) (Or.inl ⟨by rfl, fun W hSw => ?_⟩) (by assumption) ?_
        · go_simp
        try simp only [List.setIfInBounds_toArray, List.set_cons_zero, List.set_cons_succ]
        refine take_op 15 (v := .bool true) rfl rfl (by kernel_rfl) (by kernel_rfl) (by kernel_rfl) (fun _ _ _ h => h) (Or.inl ⟨by rfl, fun W hSw => ?_⟩) (by assumption) ?_
        · go_simp
        try simp only [List.setIfInBounds_toArray, List.set_cons_zero, List.set_cons_succ]
        refine take_op 16 (v := .bool true) rfl rfl (by kernel_rfl) (by kernel_rfl) (by kernel_rfl) (fun _ _ _ h => h) (Or.inl ⟨by rfl, fun W hSw => ?_⟩) (by assumption) ?_
        · go_simp
        try simp only [List.setIfInBounds_toArray, List.set_cons_zero, List.set_cons_succ]
        refine take_op 17 (v := .bool true) rfl rfl (by kernel_rfl) (by kernel_rfl) (by kernel_rfl) (fun _ _ _ h => h) (Or.inl ⟨by rfl, fun W hSw => ?_⟩) (by assumption) ?_
        · go_simp
        try simp only [List.setIfInBounds_toArray, List.set_cons_zero, List.set_cons_succ]
        refine take_op 18 (v := .bool true) rfl rfl (by kernel_rfl) (by kernel_rfl) (by kernel_rfl) (fun _ _ _ h => h) (Or.inl ⟨by rfl, fun W hSw => ?_⟩) (by assumption) ?_
        · go_simp
        try simp only [List.setIfInBounds_toArray, List.set_cons_zero, List.set_cons_succ]
        refine take_op 19 (v := .agg BV.toArray) rfl rfl (by kernel_rfl) (by kernel_rfl) (by kernel_rfl) (fun _ _ _ h => h) (yieldsIf_load_mid (by rfl) 27 (.tmp 11) rfl g11 0 rfl BV _ (fun W hW => hW.2.2.2.2) hu27 rfl hib) (by assumption) ?_
        try simp only [List.setIfInBounds_toArray, List.set_cons_zero, List.set_cons_succ]
        refine take_op 20 (v := .agg BV.toArray) rfl rfl (by kernel_rfl) (by kernel_rfl) (by kernel_rfl) (fun _ _ _ h => h) (yieldsIf_load_mid (by rfl) 27 (.tmp 5) rfl gH 0 rfl BV _ (fun W hW => hW.2.1) hu27 rfl hib) (by assumption) ?_
        try simp only [List.setIfInBounds_toArray, List.set_cons_zero, List.set_cons_succ]
        refine take_op 21 (v := .bool true) rfl rfl (by kernel_rfl) (by kernel_rfl) (by kernel_rfl) (fun _ _ _ h => h) (Or.inl ⟨by rfl, fun W hSw => ?_⟩) (by assumption) ?_
        · go_simp
        try simp only [List.setIfInBounds_toArray, List.set_cons_zero, List.set_cons_succ]
        refine take_op 22 (v := .bool true) rfl rfl (by kernel_rfl) (by kernel_rfl) (by kernel_rfl) (fun _ _ _ h => h) (Or.inl ⟨by rfl, fun W hSw => ?_⟩) (by assumption) ?_
        · go_simp
        try simp only [List.setIfInBounds_toArray, List.set_cons_zero, List.set_cons_succ]
        refine take_op 23 (v := .bool true) rfl rfl (by kernel_rfl) (by kernel_rfl) (by kernel_rfl) (fun _ _ _ h => h) (Or.inl ⟨by rfl, fun W hSw => ?_⟩) (by assumption) ?_
        · go_simp
        try simp only [List.setIfInBounds_toArray, List.set_cons_zero, List.set_cons_succ]
        refine wpAnyH_ready (rs := [24]) (by kernel_rfl) (by simp) ?_
        refine AllReadyH.cons (op_at (o := _) rfl) (fun K hK => ?_) AllReadyH.nil
        first | (go_at_call 9; refine (awake_any _).mono ?_; rintro e w' ⟨rfl, hb⟩) | (go_simp; go_at_call 9; refine (awake_any _).mono ?_; rintro e w' ⟨rfl, hb⟩)
        refine hK.out _ _ ?_ (fun hHeld => ?_)
        · exact FourAt.on (by assumption) hb
        clear hK K
        try simp only [Act.put, List.setIfInBounds_toArray, List.set_cons_zero, List.set_cons_succ]
        refine take_op 25 (v := .bool true) rfl rfl (by kernel_rfl) (by kernel_rfl) (by kernel_rfl) (fun _ _ _ h => h) (Or.inl ⟨by rfl, fun W hSw => ?_⟩) (by assumption) ?_
        · go_simp
        try simp only [List.setIfInBounds_toArray, List.set_cons_zero, List.set_cons_succ]
        refine take_op 26 (v := .bool true) rfl rfl (by kernel_rfl) (by kernel_rfl) (by kernel_rfl) (fun _ _ _ h => h) (Or.inl ⟨by rfl, fun W hSw => ?_⟩) (by assumption) ?_
        · go_simp
        try simp only [List.setIfInBounds_toArray, List.set_cons_zero, List.set_cons_succ]
        refine wpAnyH_done (by kernel_rfl) ?_ _
        go_wp2
        go_ret
        have hz := hHeld.1.1.1
        rw [HGH.out] at hz
        exact ⟨rfl, hz⟩

theorem shaTexts_own : ownKnob Try.prog.godebug = none := by kernel_rfl

theorem shaTexts_bytesByte : Try.prog.bytesOf 5 = 1 := by kernel_rfl

set_option maxRecDepth 100000 in
theorem shaTexts_lifted (os : Os) (started : os.Started) (H : Type) (enc : TypeId × Value → H) :
    ReturnsInHanded {} Try.checked os 4 .any (Rows.shaTextsSpec.pre6 enc Try.prog Try.f4 Rows.shaTextsRow.domain false) (Rows.shaTextsSpec.post enc Try.prog Try.f4 false true false false) := by
  refine law_lifted (C := Try.checked) shaTexts_own started (by kernel_rfl) Try.func4
    (ChangeSpec.witness6 (enc := enc) (C := Try.checked) false ⟨#[], #[.slice none 0 0, .string ByteArray.empty], []⟩ 8 (by kernel_rfl) (by kernel_rfl) (by kernel_rfl) (by kernel_rfl))
    (by kernel_rfl) (of_decide_eq_true (by kernel_rfl)) (tb := 4) (by kernel_rfl) Try.underlying4 rfl (fun ds h => by match ds, h with | [d0, d1], _ => exact ⟨rfl, rfl, rfl⟩) ?_
  intro W base args ds p hval0 hA0 hlt hsz0
  have hval : ∀ (j : Nat) t v, Try.f4.params[j]? = some t → args[j]? = some v → Value.okWide Try.prog W .any base t v := hval0
  have hA : DataW.TrodAll enc Try.prog W 0 (fun _ => true) true Try.f4.params.toList args.toList ds p := hA0
  have hsz : (DataW.weightsEach Try.prog Try.f4.params.toList ds).all (· ≤ reachBytes) = true := hsz0
  rw [Try.params4] at hA hval hsz
  obtain ⟨v0, vs0, d0, ds0, p0, q0, hargs, rfl, rfl, h0, r0⟩ := trodAll_cons hA
  obtain ⟨v1, vs1, d1, ds1, p1, q1, rfl, rfl, rfl, h1, r1⟩ := trodAll_cons r0
  obtain ⟨rfl, rfl, rfl⟩ := trodAll_nil r1
  obtain rfl : args = #[v0, v1] := by cases args; simp_all
  have s0 := sized_at hsz (j := 0) (t := 23) (d := d0) rfl rfl
  obtain ⟨a0, g0, z0⟩ := open_bytes Try.underlying23 Try.underlying5 (by kernel_rfl) shaTexts_bytesByte (hval 0 23 v0 rfl rfl) h0 s0
  obtain ⟨a1, rfl, rfl, rfl, w1⟩ := open_string Try.underlying9 (hval 1 9 v1 rfl rfl) h1
  have z1 := sized_string hsz (j := 1) rfl rfl
  rw [size_data] at z1
  exact shaTexts_any (w := W) v0 a0 g0 z0 a1 z1

theorem shaTexts_over : Rows.shaTextsRow.holds Try.pinned (OpenSpec.ofChange Rows.shaTextsSpec) :=
  OpenClaim.holds_of_wide 4 Try.f4 rfl rfl rfl rfl rfl rfl rfl ⟨rfl, rfl, rfl, rfl, rfl⟩ rfl rfl rfl rfl rfl (by kernel_rfl) Try.func4 (by kernel_rfl)
    (of_decide_eq_true (by kernel_rfl)) (by unfold Func.isWrapper; first | (rw [if_pos (by decide +kernel)]; kernel_rfl) | (rw [if_neg (by decide +kernel)]; exact ⟨rfl, rfl⟩))
    (fun os started H enc _ => shaTexts_lifted os started H enc)

theorem shaTexts_proved : Rows.ShaTextsSaid := shaTexts_over
#print axioms shaTexts_proved

end Go.Proofs.Ytcpioladmcidcaa
