/- Contracts: the fields that need leave, the code's and the reference's. -/
import Derived.Test.YtfgpcajjnpmoeaaShelf
import Derived.BigQuiet
import Derived.Maps.AppendAt
import Derived.Test.YtfgpcajjnpmoeaaProg
import Derived.Test.YtfgpcajjnpmoeaaKit
import Derived.Test.YtfgpcajjnpmoeaaInfo
import Derived.Test.YtfgpcajjnpmoeaaPlain
import Derived.Test.YtfgpcajjnpmoeaaStr
import Derived.Test.YtfgpcajjnpmoeaaAsc4
import Derived.Test.YtfgpcajjnpmoeaaRow
import Derived.Test.YtfgpcajjnpmoeaaCod8
import Derived.Test.YtfgpcajjnpmoeaaNet0
import Derived.Test.YtfgpcajjnpmoeaaUrl9
import Derived.Test.YtfgpcajjnpmoeaaHdr0
import Derived.Test.YtfgpcajjnpmoeaaHdr6
import Derived.Test.YtfgpcajjnpmoeaaHdr7
import Derived.Test.YtfgpcajjnpmoeaaHdr9
import Derived.Test.YtfgpcajjnpmoeaaHdr10
import Derived.Test.YtfgpcajjnpmoeaaHdr11
import Derived.Test.YtfgpcajjnpmoeaaHdr12
import Derived.Test.YtfgpcajjnpmoeaaHdr13
namespace Go.Proofs.Ytfgpcajjnpmoeaa
open Go.RowKit Go.Proofs

/-- Two rows of texts of the call's own, apart. -/
structure TwoR (w : World) (base : Nat) (vs vo : Value) (S O : List (List UInt8)) : Prop where
  rowS : w.ownsRow base 9 1 vs S.length (S.map strL)
  rowO : w.ownsRow base 9 1 vo O.length (O.map strL)
  dis : ∀ k, vs.ownBlock = some k → vo.ownBlock ≠ some k

theorem two_below {w w' : World} {base : Nat} {vs vo : Value} {S O : List (List UInt8)} (h : TwoR w base vs vo S O) (hb : Below w.heap.size w w') : TwoR w' base vs vo S O :=
  ⟨own_below h.rowS hb, own_below h.rowO hb, h.dis⟩

theorem two_swap {w : World} {base : Nat} {vs vo : Value} {S O : List (List UInt8)} (h : TwoR w base vs vo S O) : TwoR w base vo vs O S :=
  ⟨h.rowO, h.rowS, fun k a b => h.dis k b a⟩

/-- Behind an append to the second one. -/
theorem two_add {w w' : World} {base : Nat} {vs vo v' : Value} {S O : List (List UInt8)} {x : List UInt8} {X : Value} (hx : strL x = X) (h : TwoR w base vs vo S O) (ho : w'.ownsRow base 9 1 v' (O.length + 1) (O.map strL ++ [X]))
    (hk : ∀ k, k < w.heap.size → vo.ownBlock ≠ some k → w'.heap[k]? = w.heap[k]?) (hb : ∀ k, v'.ownBlock = some k → vo.ownBlock = some k ∨ w.heap.size ≤ k) : TwoR w' base vs v' S (O ++ [x]) := by
  refine ⟨own_same h.rowS (fun g hg => hk g (own_lt h.rowS hg) (h.dis g hg)), ?_, fun k h1 h2 => ?_⟩
  · rw [List.length_append, List.map_append]
    show w'.ownsRow _ _ _ _ _ (_ ++ [strL x])
    rw [hx]
    exact ho
  · rcases hb k h2 with h3 | h3
    · exact h.dis k h1 h3
    · have := own_lt h.rowS h1
      omega

theorem cell_heap {w w' : World} {g j : Nat} {v : Value} (h : w.cell? ⟨g, j, none⟩ = some v) (hg : w'.heap[g]? = w.heap[g]?) : w'.cell? ⟨g, j, none⟩ = some v := by
  unfold World.cell? at *
  rw [hg]
  exact h

/-! how it goes on -/
theorem bad_snoc {ls : List FldM} {k : Nat} {f : FldM} (h : ls[k]? = some f) : badL (ls.take (k + 1)) = badL (ls.take k) ++ (if simF f = true then [] else [lowL (fnm f)]) := by
  unfold badL
  rw [take_succ_of h, List.filter_append, List.map_append]
  congr 1
  by_cases hq : simF f = true
  · rw [if_pos hq]; simp [hq]
  · rw [if_neg hq]; simp [hq]

theorem good_snoc {ls : List FldM} {k : Nat} {f : FldM} (h : ls[k]? = some f) : goodL (ls.take (k + 1)) = goodL (ls.take k) ++ (if simF f = true then [lowL (fnm f)] else []) := by
  unfold goodL
  rw [take_succ_of h, List.filter_append, List.map_append]
  congr 1
  by_cases hq : simF f = true
  · rw [if_pos hq]; simp [hq]
  · rw [if_neg hq]; simp [hq]

theorem sum_snoc {ls : List FldM} {k : Nat} {f : FldM} (h : ls[k]? = some f) : sumL (ls.take (k + 1)) = sumL (ls.take k) + (if simF f = true then f.hv.size else 0) := by
  unfold sumL
  rw [take_succ_of h, List.filter_append, List.map_append, List.sum_append]
  congr 1
  by_cases hq : simF f = true
  · rw [if_pos hq]; simp [hq]
  · rw [if_neg hq]; simp [hq]

theorem bad_len (ls : List FldM) (k : Nat) : (badL (ls.take k)).length ≤ k := by
  unfold badL
  rw [List.length_map]
  have h1 := List.length_filter_le (fun f => !simF f) (ls.take k)
  rw [List.length_take] at h1
  omega

theorem good_len (ls : List FldM) (k : Nat) : (goodL (ls.take k)).length ≤ k := by
  unfold goodL
  rw [List.length_map]
  have h1 := List.length_filter_le simF (ls.take k)
  rw [List.length_take] at h1
  omega

theorem sum_le : ∀ ls : List FldM, sumL ls ≤ fldTot ls
  | [] => by simp [sumL]
  | f :: r => by
    have h1 := sum_le r
    unfold sumL at *
    rw [List.filter_cons]
    split
    · simp only [List.map_cons, List.sum_cons, fldTot]; omega
    · simp only [fldTot]; omega

def UnsV (w' : World) (ls : List FldM) (e : Ending) : Prop := ∃ u R, e = .returned u ∧ SliceAt w' u (R.map strL) ∧ AscL R ∧ (∀ x, x ∈ R ↔ x ∈ leaveL ls) ∧ R.length ≤ 12000

theorem leave_more {ls : List FldM} (h : 1024 < sumL ls) : leaveL ls = badL ls ++ goodL ls := by unfold leaveL; rw [if_pos h]

theorem leave_less {ls : List FldM} (h : ¬ 1024 < sumL ls) : leaveL ls = badL ls := by unfold leaveL; rw [if_neg h, List.append_nil]

theorem srt_len (l : List (List UInt8)) : (srt l).length ≤ l.length := by
  have h : (srt l).length ≤ (srtS l).length := compact_le _ _
  rw [srtS_len] at h
  exact h

theorem unsafe_any (ls : List FldM) (v : Value) (w : World) (hv : FldsAt w v ls) (hT : fldTot ls ≤ 6000) :
    Calls Try.prog 24 #[v] w fun e w' => UnsV w' ls e ∧ Below w.heap.size w w' := by
  obtain ⟨i0, hi, hz0, hz1, hz2⟩ := info_parts Try.infoStr
  have HS : Hid (∀ f W, f ∈ ls → Calls Try.prog 22 #[.agg #[.string f.hn, .string f.hv]] W fun e w' => e = .returned (.bool (simF f)) ∧ Below W.heap.size W w') := Lib.hid (fun f W hm => simple_any f.hn f.hv (by have := fldTot_mem hm; omega) (by have := fldTot_mem hm; omega) W)
  have HLW : Hid (∀ (f : FldM) W, f ∈ ls → Calls Try.prog 36 #[.string f.hn] W fun e w' => e = .returned (.string ⟨(lowL (fnm f)).toArray⟩) ∧ Below W.heap.size W w') := Lib.hid (fun f W hm => lower_str_any f.hn (by have := fldTot_mem hm; omega) W)
  obtain ⟨va, vc, hv2⟩ := flds_len hv
  subst hv2
  have HV := Lib.hid hv
  obtain ⟨n, hn⟩ : ∃ n, n = ls.length := ⟨_, rfl⟩
  have HNN := Lib.hid hn
  have HTT := Lib.hid hT
  have HNB : Hid (n ≤ 6000) := Lib.hid (by have := fldTot_len ls; omega)
  rw [← hn]
  clear hv hn hT
  go_enter Try.func24, Try.ntmps24
  go_wp2_with fail
  go_loopw [3, 4, 5, 11] (fun rg rb t i wr => ∃ (k m : Nat) (vg vb : Value), k ≤ n ∧ i = .int .i64 k ∧ t = .int .i64 m ∧ vg = rg ∧ vb = rb ∧ Hid (m = sumL (ls.take k)) ∧ m ≤ 6000 ∧ Hid (TwoR wr w.heap.size vg vb (goodL (ls.take k)) (badL (ls.take k))) ∧ Hid (Below w.heap.size w wr)) (fun _ _ _ i _ => n - (intOf i).toNat)
  case atStart => exact ⟨0, 0, _, _, Nat.zero_le _, rfl, rfl, rfl, rfl, Lib.hid (by simp [sumL]), Nat.zero_le _, Lib.hid ⟨World.ownsRow_nil _ _ _ _, World.ownsRow_nil _ _ _ _, fun k h => by simp [Value.ownBlock] at h⟩, Lib.hid (Below.refl _ _)⟩
  case round =>
    obtain ⟨k, m, vg, vb, hk, rfl, rfl, rfl, rfl, HM, hm6, H2, HB⟩ := hrel
    obtain ⟨w1, hw1⟩ : ∃ w1 : World, w1 = wr := ⟨_, rfl⟩
    subst hw1
    by_cases hlt : k < n
    · obtain ⟨f, hfk⟩ : ∃ f, ls[k]? = some f := ⟨_, List.getElem?_eq_getElem (by rw [← HNN.out]; exact hlt)⟩
      have hv1 := flds_below HV.out HB.out
      obtain ⟨b, o, c, hvv, c0, c1⟩ := flds_at hv1 hfk
      injection hvv with e1 e2 e3
      subst e1 e3
      clear e2
      have hki : (k : Int) < (n : Int) := by omega
      have hk6 : (k : Int) < 6000 := by have := HNB.out; omega
      obtain ⟨q, hq⟩ : ∃ q, q = simF f := ⟨_, rfl⟩
      obtain ⟨L, hL⟩ : ∃ L : ByteArray, L = ⟨(lowL (fnm f)).toArray⟩ := ⟨_, rfl⟩
      have HLV : Hid (strL (lowL (fnm f)) = .string L) := Lib.hid (by rw [hL]; rfl)
      have hsim := fun W => HS.out f W (List.mem_of_getElem? hfk)
      have hlow := fun W => HLW.out f W (List.mem_of_getElem? hfk)
      rw [← hq] at hsim
      rw [← hL] at hlow
      have HSIM := Lib.hid hsim
      have HLOW := Lib.hid hlow
      have HBS := Lib.hid (bad_snoc hfk)
      have HGS := Lib.hid (good_snoc hfk)
      have HSS := Lib.hid (sum_snoc hfk)
      have HQ := Lib.hid hq
      have hcb : (badL (ls.take k)).length ≤ 6000 := by have := bad_len ls k; omega
      have hcg : (goodL (ls.take k)).length ≤ 6000 := by have := good_len ls k; omega
      have HSB : Hid (sumL (ls.take (k + 1)) ≤ 6000) := Lib.hid (by have h1 := sum_le (ls.take (k + 1)); have h2 := tot_take ls (k + 1); have := HTT.out; omega)
      have hfs : f.hv.size ≤ 6000 := by have := fldTot_mem (List.mem_of_getElem? hfk); have := HTT.out; omega
      clear hq hL hfk hv1 hsim hlow
      have d0 := alloc_cell w1 #[.string f.hn, .string f.hv] 34 (0, 0) 0
      have d1 := alloc_cell w1 #[.string f.hn, .string f.hv] 34 (0, 0) 1
      have HB1 : Hid (Below w.heap.size w (w1.alloc (.cells #[.string f.hn, .string f.hv] 34))) := Lib.hid (below_more HB.out _)
      have H21 := Lib.hid (two_below H2.out (below_more (Below.refl _ _) (.cells #[.string f.hn, .string f.hv] 34)))
      have HGB : Hid (∀ k, vg.ownBlock = some k → k < w1.heap.size) := Lib.hid (fun k hk => own_lt H2.out.rowS hk)
      go_wp2_with fail
      refine (HLOW.out _).mono ?_
      rintro e w2 ⟨rfl, hb2⟩
      have k0 : w2.cell? ⟨w1.heap.size, 0, none⟩ = some (.string f.hn) := cell_stays d0 hb2
      have k1 : w2.cell? ⟨w1.heap.size, 1, none⟩ = some (.string f.hv) := cell_stays d1 hb2
      have HB2 := Lib.hid (below_then HB1.out hb2)
      have H22 := Lib.hid (two_below H21.out hb2)
      clear d0 d1 c0 c1 hb2
      go_wp2_with fail
      refine (HSIM.out _).mono ?_
      rintro e w3 ⟨rfl, hb3⟩
      have m1 : w3.cell? ⟨w1.heap.size, 1, none⟩ = some (.string f.hv) := cell_stays k1 hb3
      have HB3 := Lib.hid (below_then HB2.out hb3)
      have H23 := Lib.hid (two_below H22.out hb3)
      have hsz := HB3.out.size
      clear k0 k1 hb3
      cases q with
      | false =>
        have hown3 := H23.out.rowO
        have HE1 : Hid (badL (ls.take (k + 1)) = badL (ls.take k) ++ [lowL (fnm f)]) := Lib.hid (by rw [HBS.out, ← HQ.out, if_neg (by decide)])
        have HE2 : Hid (goodL (ls.take (k + 1)) = goodL (ls.take k)) := Lib.hid (by rw [HGS.out, ← HQ.out, if_neg (by decide), List.append_nil])
        have HE3 : Hid (sumL (ls.take (k + 1)) = sumL (ls.take k)) := Lib.hid (by rw [HSS.out, ← HQ.out, if_neg (by decide), Nat.add_zero])
        go_wp2_with (at_builtin; refine wpList_append1_at rfl _ _ 23 rfl w.heap.size 9 rfl i0 (.string ByteArray.empty) 16 Try.underlying23 hi hz0 hz1 hz2 rfl _ _ _ rfl hown3 _ rfl rfl rfl (by omega) (by omega) hsz ?_; intro v' w' hown' hb' hk' hbl')
        go_roundw
        case rel =>
          refine ⟨k + 1, m, _, _, by omega, by go_num, rfl, rfl, rfl, Lib.hid (by rw [HE3.out]; exact HM.out), hm6, Lib.hid ?_, Lib.hid (HB3.out.trans hb')⟩
          rw [HE1.out, HE2.out]
          exact two_add HLV.out H23.out hown' hk' hbl'
        case measure => simp [intOf]; omega
      | true =>
        have hown3 := H23.out.rowS
        have HE1 : Hid (badL (ls.take (k + 1)) = badL (ls.take k)) := Lib.hid (by rw [HBS.out, ← HQ.out, if_pos rfl, List.append_nil])
        have HE2 : Hid (goodL (ls.take (k + 1)) = goodL (ls.take k) ++ [lowL (fnm f)]) := Lib.hid (by rw [HGS.out, ← HQ.out, if_pos rfl])
        have HE3 : Hid (sumL (ls.take (k + 1)) = sumL (ls.take k) + f.hv.size) := Lib.hid (by rw [HSS.out, ← HQ.out, if_pos rfl])
        have hm7 : (m : Int) ≤ 6000 := by omega
        have hm8 : m + f.hv.size ≤ 6000 := by have h1 := HE3.out; have h2 := HM.out; have h3 := HSB.out; omega
        have HNE : Hid (vg.ownBlock ≠ some w1.heap.size) := Lib.hid (fun e => Nat.lt_irrefl _ (HGB.out _ e))
        have HWS : Hid (w1.heap.size < w3.heap.size) := Lib.hid (block_of_cell m1)
        go_wp2_with (at_builtin; refine wpList_append1_at rfl _ _ 23 rfl w.heap.size 9 rfl i0 (.string ByteArray.empty) 16 Try.underlying23 hi hz0 hz1 hz2 rfl _ _ _ rfl hown3 _ rfl rfl rfl (by omega) (by omega) hsz ?_; intro v' w' hown' hb' hk' hbl'; have m2 : w'.cell? ⟨w1.heap.size, 1, none⟩ = some (.string f.hv) := cell_heap m1 (hk' _ HWS.out HNE.out); clear m1)
        go_roundw
        case rel =>
          refine ⟨k + 1, m + f.hv.size, _, _, by omega, by go_num, by go_num, rfl, rfl, Lib.hid (by rw [HE3.out, ← HM.out]), hm8, Lib.hid ?_, Lib.hid (HB3.out.trans hb')⟩
          rw [HE1.out, HE2.out]
          exact two_swap (two_add HLV.out (two_swap H23.out) hown' hk' hbl')
        case measure => simp [intOf]; omega
    · have HE : Hid (ls.take k = ls) := Lib.hid (List.take_of_length_le (by have := HNN.out; omega))
      by_cases hs : 1024 < m
      · have hsi : 1024 < (m : Int) := by omega
        have HLE : Hid (leaveL ls = badL ls ++ goodL ls) := Lib.hid (leave_more (by have h := HM.out; rw [HE.out] at h; omega))
        have hownb := H2.out.rowO
        have hsl := SliceAt.own H2.out.rowS
        have hslv := own_slv H2.out.rowS
        rw [HE.out] at hownb hsl
        have hcb : (badL ls).length ≤ 6000 := by have := bad_len ls k; rw [HE.out] at this; have := HNB.out; omega
        have hcg : (goodL ls).length ≤ 6000 := by have := good_len ls k; rw [HE.out] at this; have := HNB.out; omega
        have hsz := HB.out.size
        have HAS : Hid (∀ (W : World) (u : Value), W.ownsRow w.heap.size 9 1 u (badL ls ++ goodL ls).length ((badL ls ++ goodL ls).map strL) → w.heap.size ≤ W.heap.size → Calls Try.prog 50 #[u] W fun e w' => (∃ u, e = .returned u ∧ SliceAt w' u ((srt (badL ls ++ goodL ls)).map strL)) ∧ Below w.heap.size W w') := Lib.hid (fun W u h hb => ascending_any h hb (by rw [List.length_append]; omega))
        have HR : Hid ((srt (badL ls ++ goodL ls)).length ≤ 12000) := Lib.hid (by have := srt_len (badL ls ++ goodL ls); rw [List.length_append] at this; omega)
        go_wp2_with (at_builtin; refine wpList_append_strs rfl _ _ 23 rfl w.heap.size 9 i0 (.string ByteArray.empty) Try.underlying23 hi hz0 hz1 hz2 rfl _ _ _ rfl hownb _ _ rfl hsl hslv strs_one (goodL ls).length (by rw [List.length_map]) (by omega) hsz ?_; intro v' w' hown' hb')
        rw [← List.length_append, ← List.map_append] at hown'
        have HB5 := Lib.hid (HB.out.trans hb')
        refine (HAS.out _ _ hown' HB5.out.size).mono ?_
        rintro e w6 ⟨⟨u, rfl, hs6⟩, hb6⟩
        have HS6 := Lib.hid hs6
        have HB6 := Lib.hid (HB5.out.trans hb6)
        clear hs6 hb6 hown' hb' hownb hsl hslv
        go_wp2_with fail
        go_ret
        obtain ⟨a1, a2⟩ := srt_asc (badL ls ++ goodL ls)
        exact ⟨⟨u, srt (badL ls ++ goodL ls), rfl, HS6.out, a1, fun x => by rw [HLE.out]; exact a2 x, HR.out⟩, HB6.out⟩
      · have hsi : ¬ 1024 < (m : Int) := by omega
        have HLE : Hid (leaveL ls = badL ls) := Lib.hid (leave_less (by have h := HM.out; rw [HE.out] at h; omega))
        have hownb := H2.out.rowO
        rw [HE.out] at hownb
        have hcb : (badL ls).length ≤ 6000 := by have := bad_len ls k; rw [HE.out] at this; have := HNB.out; omega
        have HAS := Lib.hid (ascending_any hownb HB.out.size (by omega))
        have HR : Hid ((srt (badL ls)).length ≤ 12000) := Lib.hid (by have := srt_len (badL ls); omega)
        clear hownb
        go_wp2_with fail
        refine HAS.out.mono ?_
        rintro e w6 ⟨⟨u, rfl, hs6⟩, hb6⟩
        have HS6 := Lib.hid hs6
        have HB6 := Lib.hid (HB.out.trans hb6)
        clear hs6 hb6
        go_wp2_with fail
        go_ret
        obtain ⟨a1, a2⟩ := srt_asc (badL ls)
        exact ⟨⟨u, srt (badL ls), rfl, HS6.out, a1, fun x => by rw [HLE.out]; exact a2 x, HR.out⟩, HB6.out⟩

theorem rUnsafe_any (ls : List FldM) (v : Value) (w : World) (hv : FldsAt w v ls) (hT : fldTot ls ≤ 6000) :
    Calls Try.prog 25 #[v] w fun e w' => UnsV w' ls e ∧ Below w.heap.size w w' := by
  obtain ⟨i0, hi, hz0, hz1, hz2⟩ := info_parts Try.infoStr
  have HS : Hid (∀ f W, f ∈ ls → Calls Try.prog 23 #[.agg #[.string f.hn, .string f.hv]] W fun e w' => e = .returned (.bool (simF f)) ∧ Below W.heap.size W w') := Lib.hid (fun f W hm => rsimple_any f.hn f.hv (by have := fldTot_mem hm; omega) (by have := fldTot_mem hm; omega) W)
  have HLW : Hid (∀ (f : FldM) W, f ∈ ls → Calls Try.prog 38 #[.string f.hn] W fun e w' => e = .returned (.string ⟨(lowL (fnm f)).toArray⟩) ∧ Below W.heap.size W w') := Lib.hid (fun f W hm => ref_lower_any f.hn (by have := fldTot_mem hm; omega) W)
  obtain ⟨va, vc, hv2⟩ := flds_len hv
  subst hv2
  have HV := Lib.hid hv
  obtain ⟨n, hn⟩ : ∃ n, n = ls.length := ⟨_, rfl⟩
  have HNN := Lib.hid hn
  have HTT := Lib.hid hT
  have HNB : Hid (n ≤ 6000) := Lib.hid (by have := fldTot_len ls; omega)
  rw [← hn]
  clear hv hn hT
  go_enter Try.func25, Try.ntmps25
  go_wp2_with fail
  go_loopw [3, 4, 5, 6] (fun rb rg t i wr => ∃ (k m : Nat) (vg vb : Value), k ≤ n ∧ i = .int .i64 k ∧ t = .int .i64 m ∧ vg = rg ∧ vb = rb ∧ Hid (m = sumL (ls.take k)) ∧ m ≤ 6000 ∧ Hid (TwoR wr w.heap.size vg vb (goodL (ls.take k)) (badL (ls.take k))) ∧ Hid (Below w.heap.size w wr)) (fun _ _ _ i _ => n - (intOf i).toNat)
  case atStart => exact ⟨0, 0, _, _, Nat.zero_le _, rfl, rfl, rfl, rfl, Lib.hid (by simp [sumL]), Nat.zero_le _, Lib.hid ⟨World.ownsRow_nil _ _ _ _, World.ownsRow_nil _ _ _ _, fun k h => by simp [Value.ownBlock] at h⟩, Lib.hid (Below.refl _ _)⟩
  case round =>
    obtain ⟨k, m, vg, vb, hk, rfl, rfl, rfl, rfl, HM, hm6, H2, HB⟩ := hrel
    obtain ⟨w1, hw1⟩ : ∃ w1 : World, w1 = wr := ⟨_, rfl⟩
    subst hw1
    by_cases hlt : k < n
    · obtain ⟨f, hfk⟩ : ∃ f, ls[k]? = some f := ⟨_, List.getElem?_eq_getElem (by rw [← HNN.out]; exact hlt)⟩
      have hv1 := flds_below HV.out HB.out
      obtain ⟨b, o, c, hvv, c0, c1⟩ := flds_at hv1 hfk
      injection hvv with e1 e2 e3
      subst e1 e3
      clear e2
      have hki : (k : Int) < (n : Int) := by omega
      have hk6 : (k : Int) < 6000 := by have := HNB.out; omega
      obtain ⟨q, hq⟩ : ∃ q, q = simF f := ⟨_, rfl⟩
      obtain ⟨L, hL⟩ : ∃ L : ByteArray, L = ⟨(lowL (fnm f)).toArray⟩ := ⟨_, rfl⟩
      have HLV : Hid (strL (lowL (fnm f)) = .string L) := Lib.hid (by rw [hL]; rfl)
      have hsim := fun W => HS.out f W (List.mem_of_getElem? hfk)
      have hlow := fun W => HLW.out f W (List.mem_of_getElem? hfk)
      rw [← hq] at hsim
      rw [← hL] at hlow
      have HSIM := Lib.hid hsim
      have HLOW := Lib.hid hlow
      have HBS := Lib.hid (bad_snoc hfk)
      have HGS := Lib.hid (good_snoc hfk)
      have HSS := Lib.hid (sum_snoc hfk)
      have HQ := Lib.hid hq
      have hcb : (badL (ls.take k)).length ≤ 6000 := by have := bad_len ls k; omega
      have hcg : (goodL (ls.take k)).length ≤ 6000 := by have := good_len ls k; omega
      have HSB : Hid (sumL (ls.take (k + 1)) ≤ 6000) := Lib.hid (by have h1 := sum_le (ls.take (k + 1)); have h2 := tot_take ls (k + 1); have := HTT.out; omega)
      have hfs : f.hv.size ≤ 6000 := by have := fldTot_mem (List.mem_of_getElem? hfk); have := HTT.out; omega
      clear hq hL hfk hv1 hsim hlow
      have HCC : Hid (∀ W, Below w1.heap.size w1 W → W.cell? ⟨b, o + k * 2, none⟩ = some (.string f.hn) ∧ W.cell? ⟨b, o + k * 2 + 1, none⟩ = some (.string f.hv)) := Lib.hid (fun W hW => ⟨cell_stays c0 hW, cell_stays c1 hW⟩)
      go_wp2_with fail
      refine (HSIM.out _).mono ?_
      rintro e w2 ⟨rfl, hb2⟩
      obtain ⟨k0, k1⟩ := HCC.out w2 hb2
      have HB2 := Lib.hid (below_then HB.out hb2)
      have H22 := Lib.hid (two_below H2.out hb2)
      have HBB := Lib.hid hb2
      clear c0 c1 hb2
      cases q with
      | false =>
        have HE1 : Hid (badL (ls.take (k + 1)) = badL (ls.take k) ++ [lowL (fnm f)]) := Lib.hid (by rw [HBS.out, ← HQ.out, if_neg (by decide)])
        have HE2 : Hid (goodL (ls.take (k + 1)) = goodL (ls.take k)) := Lib.hid (by rw [HGS.out, ← HQ.out, if_neg (by decide), List.append_nil])
        have HE3 : Hid (sumL (ls.take (k + 1)) = sumL (ls.take k)) := Lib.hid (by rw [HSS.out, ← HQ.out, if_neg (by decide), Nat.add_zero])
        go_wp2_with fail
        refine (HLOW.out _).mono ?_
        rintro e w3 ⟨rfl, hb3⟩
        have HB3 := Lib.hid (below_then HB2.out hb3)
        have H23 := Lib.hid (two_below H22.out hb3)
        have hsz := HB3.out.size
        have hown3 := H23.out.rowO
        clear k0 k1 hb3
        go_wp2_with (at_builtin; refine wpList_append1_at rfl _ _ 23 rfl w.heap.size 9 rfl i0 (.string ByteArray.empty) 16 Try.underlying23 hi hz0 hz1 hz2 rfl _ _ _ rfl hown3 _ rfl rfl rfl (by omega) (by omega) hsz ?_; intro v' w' hown' hb' hk' hbl')
        go_roundw
        case rel =>
          refine ⟨k + 1, m, _, _, by omega, by go_num, rfl, rfl, rfl, Lib.hid (by rw [HE3.out]; exact HM.out), hm6, Lib.hid ?_, Lib.hid (HB3.out.trans hb')⟩
          rw [HE1.out, HE2.out]
          exact two_add HLV.out H23.out hown' hk' hbl'
        case measure => simp [intOf]; omega
      | true =>
        have HE1 : Hid (badL (ls.take (k + 1)) = badL (ls.take k)) := Lib.hid (by rw [HBS.out, ← HQ.out, if_pos rfl, List.append_nil])
        have HE2 : Hid (goodL (ls.take (k + 1)) = goodL (ls.take k) ++ [lowL (fnm f)]) := Lib.hid (by rw [HGS.out, ← HQ.out, if_pos rfl])
        have HE3 : Hid (sumL (ls.take (k + 1)) = sumL (ls.take k) + f.hv.size) := Lib.hid (by rw [HSS.out, ← HQ.out, if_pos rfl])
        have hm7 : (m : Int) ≤ 6000 := by omega
        have hm8 : m + f.hv.size ≤ 6000 := by have h1 := HE3.out; have h2 := HM.out; have h3 := HSB.out; omega
        go_wp2_with fail
        refine (HLOW.out _).mono ?_
        rintro e w3 ⟨rfl, hb3⟩
        have HB3 := Lib.hid (below_then HB2.out hb3)
        have H23 := Lib.hid (two_below H22.out hb3)
        have hsz := HB3.out.size
        have hown3 := H23.out.rowS
        clear k0 k1 hb3
        go_wp2_with (at_builtin; refine wpList_append1_at rfl _ _ 23 rfl w.heap.size 9 rfl i0 (.string ByteArray.empty) 16 Try.underlying23 hi hz0 hz1 hz2 rfl _ _ _ rfl hown3 _ rfl rfl rfl (by omega) (by omega) hsz ?_; intro v' w' hown' hb' hk' hbl')
        go_roundw
        case rel =>
          refine ⟨k + 1, m + f.hv.size, _, _, by omega, by go_num, by go_num, rfl, rfl, Lib.hid (by rw [HE3.out, ← HM.out]), hm8, Lib.hid ?_, Lib.hid (HB3.out.trans hb')⟩
          rw [HE1.out, HE2.out]
          exact two_swap (two_add HLV.out (two_swap H23.out) hown' hk' hbl')
        case measure => simp [intOf]; omega
    · have HE : Hid (ls.take k = ls) := Lib.hid (List.take_of_length_le (by have := HNN.out; omega))
      by_cases hs : 1024 < m
      · have hsi : 1024 < (m : Int) := by omega
        have HLE : Hid (leaveL ls = badL ls ++ goodL ls) := Lib.hid (leave_more (by have h := HM.out; rw [HE.out] at h; omega))
        have hownb := H2.out.rowO
        have hsl := SliceAt.own H2.out.rowS
        have hslv := own_slv H2.out.rowS
        rw [HE.out] at hownb hsl
        have hcb : (badL ls).length ≤ 6000 := by have := bad_len ls k; rw [HE.out] at this; have := HNB.out; omega
        have hcg : (goodL ls).length ≤ 6000 := by have := good_len ls k; rw [HE.out] at this; have := HNB.out; omega
        have hsz := HB.out.size
        have HAS : Hid (∀ (W : World) (u : Value), SliceAt W u ((badL ls ++ goodL ls).map strL) → Calls Try.prog 51 #[u] W fun e w' => SortedV w' (badL ls ++ goodL ls) e ∧ Below W.heap.size W w') := Lib.hid (fun W u h => rsorted_any _ u W h (by rw [List.length_append]; omega))
        have HCN : Hid ((badL ls ++ goodL ls).length ≤ 12000) := Lib.hid (by rw [List.length_append]; omega)
        go_wp2_with (at_builtin; refine wpList_append_strs rfl _ _ 23 rfl w.heap.size 9 i0 (.string ByteArray.empty) Try.underlying23 hi hz0 hz1 hz2 rfl _ _ _ rfl hownb _ _ rfl hsl hslv strs_one (goodL ls).length (by rw [List.length_map]) (by omega) hsz ?_; intro v' w' hown' hb')
        rw [← List.map_append] at hown'
        have HB5 := Lib.hid (HB.out.trans hb')
        refine (HAS.out _ _ (SliceAt.own hown')).mono ?_
        rintro e w6 ⟨⟨u, R, rfl, r1, r2, r3, r4⟩, hb6⟩
        have HS6 := Lib.hid r3
        have HB6 := Lib.hid (below_then HB5.out hb6)
        have HRR : Hid (AscL R ∧ (∀ x, x ∈ R ↔ x ∈ badL ls ++ goodL ls) ∧ R.length ≤ 12000) := Lib.hid ⟨r1, r2, by have := HCN.out; omega⟩
        clear r1 r2 r3 r4 hb6 hown' hb' hownb hsl hslv
        go_wp2_with fail
        go_ret
        exact ⟨⟨u, R, rfl, HS6.out, HRR.out.1, fun x => by rw [HLE.out]; exact HRR.out.2.1 x, HRR.out.2.2⟩, HB6.out⟩
      · have hsi : ¬ 1024 < (m : Int) := by omega
        have HLE : Hid (leaveL ls = badL ls) := Lib.hid (leave_less (by have h := HM.out; rw [HE.out] at h; omega))
        have hsl := SliceAt.own H2.out.rowO
        rw [HE.out] at hsl
        have hcb : (badL ls).length ≤ 6000 := by have := bad_len ls k; rw [HE.out] at this; have := HNB.out; omega
        have HAS := Lib.hid (rsorted_any _ _ w1 hsl (by omega))
        have HCN := Lib.hid hcb
        clear hsl
        go_wp2_with fail
        refine HAS.out.mono ?_
        rintro e w6 ⟨⟨u, R, rfl, r1, r2, r3, r4⟩, hb6⟩
        have HS6 := Lib.hid r3
        have HB6 := Lib.hid (below_then HB.out hb6)
        have HRR : Hid (AscL R ∧ (∀ x, x ∈ R ↔ x ∈ badL ls) ∧ R.length ≤ 12000) := Lib.hid ⟨r1, r2, by have := HCN.out; omega⟩
        clear r1 r2 r3 r4 hb6
        go_wp2_with fail
        go_ret
        exact ⟨⟨u, R, rfl, HS6.out, HRR.out.1, fun x => by rw [HLE.out]; exact HRR.out.2.1 x, HRR.out.2.2⟩, HB6.out⟩

end Go.Proofs.Ytfgpcajjnpmoeaa
