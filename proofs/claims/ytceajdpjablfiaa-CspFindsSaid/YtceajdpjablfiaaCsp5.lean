/- csp: what a policy is written as: the library's Concat and Join over texts; the code's Text. -/
import Derived.Test.YtceajdpjablfiaaShelf
import Derived.Test.YtceajdpjablfiaaVshelf
import Derived.BigRegion
import Derived.BigQuiet
import Derived.Maps.AppendAt
import Derived.Test.YtceajdpjablfiaaProg
import Derived.Test.YtceajdpjablfiaaKit
import Derived.Test.YtceajdpjablfiaaInfo
import Derived.Test.YtceajdpjablfiaaAsc4
import Derived.Test.YtceajdpjablfiaaRow
import Derived.Test.YtceajdpjablfiaaRow2
import Derived.Test.YtceajdpjablfiaaCod8
import Derived.Test.YtceajdpjablfiaaUrl9
import Derived.Test.YtceajdpjablfiaaHdr10
import Derived.Test.YtceajdpjablfiaaCsp0
import Derived.Test.YtceajdpjablfiaaCsp1
namespace Go.Proofs.Ytceajdpjablfiaa
open Go.RowKit Go.Proofs

theorem cgrow_any (n : Nat) (h0 : 0 < n) (hn : n ≤ 100000) (w : World) :
    Calls Try.prog 32 #[.slice none 0 0, .int .i64 n] w fun e w' => (∃ v, e = .returned v ∧ w'.ownsRow w.heap.size 9 1 v 0 []) ∧ Below w.heap.size w w' := by
  obtain ⟨i0, hi, hz0, hz1, hz2⟩ := info_parts Try.infoStr
  have h := Any8.slices_Grow_grow Try.growS i0 (.string ByteArray.empty) hi hz0 (by rw [hz1]; decide) none 0 0 n [] w (Nat.le_refl _) (by omega) (by rw [hz2, Nat.zero_add]; omega) (by omega) (by simp) (fun _ => rfl) (fun a ha => by cases ha)
  refine h.mono ?_
  rintro e w' ⟨rfl, rfl⟩
  have hle := grownCap_le w n 0 9
  have hmx := grownCap_le_maxLen w n 0 9 (by unfold maxLen; omega)
  simp only [Nat.zero_add]
  refine ⟨⟨_, rfl, ?_⟩, ?_⟩
  · refine World.ownsRow_made w.drew _ _ (Nat.le_refl _) hmx ?_
    simp only [Array.size_append, size_zeroCells]
    show 0 + (n - 0) * 1 + (grownCap w n 0 9 - n) * 1 = grownCap w n 0 9 * 1
    omega
  · exact below_more (below_draws (Below.refl _ _) ⟨1, rfl⟩) _

/-- Rows of texts, one behind the other. -/
def RowsIn (w : World) (b : Nat) (LL : List (List (List UInt8))) : Prop := ∀ (i : Nat) xs, LL[i]? = some xs → ∃ u, w.cell? ⟨b, i, none⟩ = some u ∧ StrSl w u xs

theorem flat_take {LL : List (List (List UInt8))} {i : Nat} {xs : List (List UInt8)} (h : LL[i]? = some xs) : (LL.take (i + 1)).flatten = (LL.take i).flatten ++ xs := by
  rw [take_succ_of h, List.flatten_append]
  simp

theorem flat_le (LL : List (List (List UInt8))) (i : Nat) : (LL.take i).flatten.length ≤ LL.flatten.length := by
  have h : LL.flatten = (LL.take i).flatten ++ (LL.drop i).flatten := by rw [← List.flatten_append, List.take_append_drop]
  rw [h, List.length_append]
  omega

theorem flat_mem {LL : List (List (List UInt8))} {xs : List (List UInt8)} (h : xs ∈ LL) : xs.length ≤ LL.flatten.length := by
  induction LL with
  | nil => cases h
  | cons y r ih =>
    rw [List.flatten_cons, List.length_append]
    rcases List.mem_cons.1 h with rfl | h
    · omega
    · have := ih h; omega

set_option maxRecDepth 100000 in
theorem cconcat_any (LL : List (List (List UInt8))) (b c : Nat) (w : World) (hb : b < w.heap.size) (h : RowsIn w b LL) (hl : LL.length ≤ 1000) (h0 : 0 < LL.flatten.length) (hn : LL.flatten.length ≤ 60000) :
    Calls Try.prog 27 #[.slice (some ⟨b, 0, none⟩) LL.length c] w fun e w' => (∃ v, e = .returned v ∧ w'.ownsRow w.heap.size 9 1 v LL.flatten.length (LL.flatten.map strL)) ∧ Below w.heap.size w w' := by
  obtain ⟨i0, hi, hz0, hz1, hz2⟩ := info_parts Try.infoStr
  have H := Lib.hid h
  obtain ⟨m, hm⟩ : ∃ m, m = LL.length := ⟨_, rfl⟩
  have HM := Lib.hid hm
  have HB := Lib.hid hb
  rw [← hm] at hl ⊢
  have HL := Lib.hid hl
  have HN := Lib.hid (And.intro h0 hn)
  clear h hm hb hl h0 hn
  go_enter Try.func27, Try.ntmps27
  go_wp2_with fail
  go_loop [3, 11] (fun sv iv => ∃ (i T : Nat), i ≤ m ∧ iv = .int .i64 i ∧ sv = .int .i64 T ∧ Hid (T = (LL.take i).flatten.length)) (fun _ iv => m - (intOf iv).toNat)
  case atStart => exact ⟨0, 0, Nat.zero_le _, rfl, rfl, Lib.hid rfl⟩
  case round =>
    obtain ⟨i, T, hi', rfl, rfl, HT⟩ := hrel
    have hT : (T : Int) ≤ 60000 := by have h1 := HT.out; have h2 := flat_le LL i; have h3 := HN.out.2; omega
    by_cases hlt : i < m
    · obtain ⟨xs, hxs⟩ : ∃ xs, LL[i]? = some xs := ⟨_, List.getElem?_eq_getElem (by rw [← HM.out]; exact hlt)⟩
      obtain ⟨u, c0, hs⟩ := H.out i xs hxs
      obtain ⟨a, cc, rfl⟩ := strSl_len hs
      obtain ⟨q, hq⟩ : ∃ q, q = xs.length := ⟨_, rfl⟩
      rw [← hq] at c0
      have HQ := Lib.hid hq
      have HF := Lib.hid (flat_take hxs)
      have hqb : (q : Int) ≤ 60000 := by have h1 := flat_mem (List.mem_of_getElem? hxs); have h3 := HN.out.2; omega
      have hii : (i : Int) < (m : Int) := by omega
      have him : (i : Int) < 1000 := by have := HL.out; omega
      clear hs hxs hq
      go_wp2_with fail
      go_round
      case rel => exact ⟨i + 1, T + q, by omega, by go_num, by go_num, Lib.hid (by rw [HF.out, List.length_append, ← HT.out, ← HQ.out])⟩
      case measure => simp [intOf]; omega
    · have HE : Hid ((T : Int) = (LL.flatten.length : Int)) := Lib.hid (by
        have h := HT.out
        rw [List.take_of_length_le (by have := HM.out; omega)] at h
        omega)
      obtain ⟨N, hN⟩ : ∃ N, N = LL.flatten.length := ⟨_, rfl⟩
      have HNE := Lib.hid hN
      have hTN : T = N := by have := HE.out; omega
      subst hTN
      have HG := Lib.hid (cgrow_any T (by have := HN.out.1; omega) (by have := HN.out.2; omega) w)
      clear hN HE HT hT
      go_wp2_with fail
      refine HG.out.mono ?_
      rintro e w1 ⟨⟨v, rfl, hown⟩, hb1⟩
      have HO := Lib.hid hown
      have HB1 := Lib.hid hb1
      clear hown hb1 hlt hi'
      go_wp2_with fail
      go_loopw [6, 27] (fun sv iv wr => ∃ (i : Nat), i ≤ m ∧ iv = .int .i64 i ∧ Hid (wr.ownsRow w.heap.size 9 1 sv (LL.take i).flatten.length ((LL.take i).flatten.map strL)) ∧ Hid (Below w.heap.size w wr)) (fun _ iv _ => m - (intOf iv).toNat)
      case atStart => exact ⟨0, Nat.zero_le _, rfl, HO, HB1⟩
      case round =>
        obtain ⟨j, hj', rfl, HO2, HB2⟩ := hrel
        obtain ⟨w2, hw2⟩ : ∃ w2 : World, w2 = wr := ⟨_, rfl⟩
        subst hw2
        by_cases hlt : j < m
        · obtain ⟨xs, hxs⟩ : ∃ xs, LL[j]? = some xs := ⟨_, List.getElem?_eq_getElem (by rw [← HM.out]; exact hlt)⟩
          obtain ⟨u, c0, hs⟩ := H.out j xs hxs
          have c1 : w2.cell? ⟨b, j, none⟩ = some u := cell_stays c0 HB2.out
          have hs2 := strSl_below hs HB2.out
          have hsl := strSl_at hs2
          have hsv := strSl_slv hs2
          obtain ⟨a, cc, rfl⟩ := strSl_len hs
          obtain ⟨q, hq⟩ : ∃ q, q = xs.length := ⟨_, rfl⟩
          rw [← hq] at c1 hsl hsv
          have HQ := Lib.hid hq
          have HF := Lib.hid (flat_take hxs)
          have hqb : (LL.take j).flatten.length + q < 1000000 := by have h1 := flat_mem (List.mem_of_getElem? hxs); have h2 := flat_le LL j; have h3 := HN.out.2; omega
          have hjj : (j : Int) < (m : Int) := by omega
          have hjm : (j : Int) < 1000 := by have := HL.out; omega
          have hown2 := HO2.out
          have hsz := HB2.out.size
          clear hs hs2 hxs hq c0
          go_wp2_with (at_builtin; go_loud (refine wpList_append_strs rfl _ _ 27 rfl w.heap.size 9 i0 (.string ByteArray.empty) Try.underlying27 hi hz0 hz1 hz2 rfl _ _ _ rfl hown2 _ _ rfl hsl hsv strs_one q (by rw [List.length_map]; exact HQ.out) (by omega) hsz ?_); intro v' w' hown' hb')
          go_roundw
          case rel =>
            refine ⟨j + 1, by omega, by go_num, Lib.hid ?_, Lib.hid (HB2.out.trans hb')⟩
            rw [HF.out, List.length_append, List.map_append, ← HQ.out]
            exact hown'
          case measure => simp [intOf]; omega
        · have HE : Hid (LL.take j = LL) := Lib.hid (List.take_of_length_le (by have := HM.out; omega))
          go_wp2_with fail
          go_ret
          have h := HO2.out
          rw [HE.out] at h
          exact ⟨⟨_, rfl, h⟩, HB2.out⟩

theorem cjoin_any (v : Value) (ps : List (List UInt8)) (sep : ByteArray) (base : Nat) (w : World) (hv : w.ownsRow base 9 1 v ps.length (ps.map strL)) (hl : (Lib.join ps sep.data.toList).length ≤ 100000000) (hn : ps.length ≤ 100000000) :
    Calls Try.prog 28 #[v, .string sep] w fun e w' => e = .returned (.string ⟨(Lib.join ps sep.data.toList).toArray⟩) ∧ Below w.heap.size w w' := by
  by_cases h0 : ps = []
  · subst h0
    obtain ⟨a, c, rfl⟩ := own_len hv
    exact (Try.strings_Join_none a c sep w).mono fun e w' ⟨h1, h2⟩ => ⟨h1, h2 ▸ Below.refl _ _⟩
  · rcases hv.2 with ⟨_, hn0⟩ | ⟨g, cap, cur, rfl, _, hh, hnc, _⟩
    · exact absurd (List.eq_nil_of_length_eq_zero hn0) h0
    · have hat := strSl_own hv
      rcases hat with ⟨_, h⟩ | ⟨b, o, c, cur2, fr, hv2, _, hat⟩
      · exact absurd h h0
      · injection hv2 with e1 _ _
        injection e1 with e1
        injection e1 with e1 e2 _
        subst e1 e2
        have e : (ps.map (fun l => (⟨l.toArray⟩ : ByteArray))).map (·.data.toList) = ps := by
          rw [List.map_map]
          conv => rhs; rw [← List.map_id ps]
          apply List.map_congr_left
          intro l _
          simp
        have hc2 := Try.strings_Join g 0 cap (ps.map (fun l => (⟨l.toArray⟩ : ByteArray))) sep w (fun j x hj => by
          rw [List.getElem?_map] at hj
          cases hq : ps[j]? with
          | none => rw [hq] at hj; simp at hj
          | some l =>
            rw [hq] at hj
            simp at hj
            subst hj
            exact hat j l hq) (heap_lt hh) (by rw [List.length_map]; omega) (by rw [List.length_map]; exact hnc) (by rw [e]; omega)
        rw [e, List.length_map] at hc2
        exact hc2

theorem join_dir (d : DirM) : Lib.join (d.cdn :: d.cdl) [32] = dirT d := by
  rw [Lib.join_cons]
  unfold dirT Lib.joinTail
  rw [List.flatMap_def]
  rfl

theorem join_csp : ∀ ds : List DirM, Lib.join (ds.map dirT) [59, 32] = cspT ds
  | [] => rfl
  | d :: r => by
    rw [List.map_cons, Lib.join_cons]
    show _ = dirT d ++ r.flatMap (fun e => 59 :: 32 :: dirT e)
    unfold Lib.joinTail
    rw [List.map_map, List.flatMap_def]
    rfl

theorem strSl_one {w : World} {b o c : Nat} {x : List UInt8} {cur : Array Value} {fr : Nat × Nat} (hh : w.heap[b]? = some (.cells cur 9 fr)) (hc : w.cell? ⟨b, o, none⟩ = some (strL x)) : StrSl w (.slice (some ⟨b, o, none⟩) 1 c) [x] := by
  refine .inr ⟨b, o, c, cur, fr, rfl, hh, fun j y hj => ?_⟩
  match j, hj with
  | 0, hj =>
    simp at hj
    subst hj
    exact hc
  | j + 1, hj => simp at hj

set_option maxRecDepth 100000 in
set_option maxHeartbeats 1000000 in
theorem ctext_any (ds : List DirM) (v : Value) (w : World) (hv : DirsAt w v ds) (hT : dirsN ds ≤ 5001) :
    Calls Try.prog 17 #[v] w fun e w' => e = .returned (.string ⟨(cspT ds).toArray⟩) ∧ Below w.heap.size w w' := by
  obtain ⟨i0, hi, hz0, hz1, hz2⟩ := info_parts Try.infoStr
  obtain ⟨va, vc, hv2⟩ := dirs_len hv
  subst hv2
  have HV := Lib.hid hv
  have HTT := Lib.hid hT
  obtain ⟨n, hn⟩ : ∃ n, n = ds.length := ⟨_, rfl⟩
  have HNN := Lib.hid hn
  have HNB : Hid (n ≤ 5001) := Lib.hid (by have := dirsN_len ds; omega)
  rw [← hn]
  clear hv hT hn
  go_enter Try.func17, Try.ntmps17
  go_wp2_with fail
  go_loopw [3, 9] (fun r j wr => ∃ k : Nat, k ≤ n ∧ j = .int .i64 k ∧ Hid (wr.ownsRow w.heap.size 9 1 r k (((ds.take k).map dirT).map strL)) ∧ Hid (Below w.heap.size w wr)) (fun _ j _ => n - (intOf j).toNat)
  case atStart => exact ⟨0, Nat.zero_le _, rfl, Lib.hid (World.ownsRow_nil _ _ _ _), Lib.hid (Below.refl _ _)⟩
  case round =>
    obtain ⟨k, hk, rfl, HO, HB⟩ := hrel
    obtain ⟨w2, hw2⟩ : ∃ w2 : World, w2 = wr := ⟨_, rfl⟩
    subst hw2
    by_cases hlt : k < n
    · obtain ⟨d, hdk⟩ : ∃ d, ds[k]? = some d := ⟨_, List.getElem?_eq_getElem (by rw [← HNN.out]; exact hlt)⟩
      obtain ⟨bv, ov, cv, hvv, d0, ud, d1, hsd⟩ := dirs_at (dirs_below HV.out HB.out) hdk
      injection hvv with e1 e2 e3
      subst e1 e3
      clear e2
      obtain ⟨X, hX⟩ : ∃ X : ByteArray, X.data.toList = d.cdn := ⟨⟨d.cdn.toArray⟩, rfl⟩
      rw [strL_of hX] at d0
      obtain ⟨da, dc, rfl⟩ := strSl_len hsd
      obtain ⟨q, hq⟩ : ∃ q, q = d.cdl.length := ⟨_, rfl⟩
      rw [← hq] at d1 hsd
      have hii : (k : Int) < (n : Int) := by omega
      have hi6 : (k : Int) < 5001 := by have := HNB.out; omega
      have HQ := Lib.hid hq
      have hbnd : X.size + q ≤ 5001 ∧ (d.cdn :: d.cdl).length ≤ 5001 ∧ (dirT d).length ≤ 5001 := by
        have h1 := dirsN_mem (List.mem_of_getElem? hdk)
        have h2 := HTT.out
        have h3 := dirT_len d
        have h4 := llTot_len (d.cdn :: d.cdl)
        have h5 : X.size = d.cdn.length := by rw [← hX, size_data]
        have h6 := llTot_len d.cdl
        unfold dirN at h1 h3
        simp only [llTot] at h1 h3 h4
        refine ⟨by omega, by omega, by omega⟩
      have HBND := Lib.hid hbnd
      have HXV : Hid (strL d.cdn = .string X) := Lib.hid (strL_of hX)
      have HTK := Lib.hid (take_succ_of hdk)
      have e1 : (w2.alloc (.cells #[.string X, .slice da q dc] 30)).heap.size = w2.heap.size + 1 := by simp
      have e2 : ((w2.alloc (.cells #[.string X, .slice da q dc] 30)).alloc (.cells #[.string X] 9)).heap.size = w2.heap.size + 1 + 1 := by simp
      have e3 : (((w2.alloc (.cells #[.string X, .slice da q dc] 30)).alloc (.cells #[.string X] 9)).alloc (.cells #[.slice (some ⟨w2.heap.size + 1, 0, none⟩) 1 1, .slice da q dc] 27)).heap.size = w2.heap.size + 1 + 1 + 1 := by simp
      have hb3 : Below w2.heap.size w2 (((w2.alloc (.cells #[.string X, .slice da q dc] 30)).alloc (.cells #[.string X] 9)).alloc (.cells #[.slice (some ⟨w2.heap.size + 1, 0, none⟩) 1 1, .slice da q dc] 27)) := below_more (below_more (below_more (Below.refl _ _) _) _) _
      have hrow : RowsIn (((w2.alloc (.cells #[.string X, .slice da q dc] 30)).alloc (.cells #[.string X] 9)).alloc (.cells #[.slice (some ⟨w2.heap.size + 1, 0, none⟩) 1 1, .slice da q dc] 27)) (w2.heap.size + 1 + 1) [[d.cdn], d.cdl] := by
        intro i xs hi
        match i, hi with
        | 0, hi =>
          simp at hi
          subst hi
          refine ⟨.slice (some ⟨w2.heap.size + 1, 0, none⟩) 1 1, ?_, ?_⟩
          · rw [← e2]
            exact alloc_cell _ _ _ _ 0
          · have hh : ((w2.alloc (.cells #[.string X, .slice da q dc] 30)).alloc (.cells #[.string X] 9)).heap[w2.heap.size + 1]? = some (.cells #[.string X] 9 (0, 0)) := by
              rw [← e1]
              exact heap_alloc_new _ _
            have hc : ((w2.alloc (.cells #[.string X, .slice da q dc] 30)).alloc (.cells #[.string X] 9)).cell? ⟨w2.heap.size + 1, 0, none⟩ = some (strL d.cdn) := by
              rw [← e1, HXV.out]
              exact alloc_cell _ _ _ _ 0
            exact strSl_below (strSl_one hh hc) (below_more (Below.refl _ _) _)
        | 1, hi =>
          simp at hi
          subst hi
          refine ⟨.slice da q dc, ?_, ?_⟩
          · rw [← e2]
            exact alloc_cell _ _ _ _ 1
          · exact strSl_below hsd hb3
        | i + 2, hi => simp at hi
      have HCC := Lib.hid (cconcat_any [[d.cdn], d.cdl] (w2.heap.size + 1 + 1) 2 _ (by rw [e3]; omega) hrow (by simp) (by simp) (by simp; have := hbnd.2.1; simp at this; omega))
      have HB3 := Lib.hid (below_then HB.out hb3)
      have HO3 := Lib.hid (own_below HO.out hb3)
      clear hrow e1 e2 e3 hb3 hsd hX hdk hq hbnd
      go_wp2_with fail
      refine HCC.out.mono ?_
      rintro e w5 ⟨⟨v5, rfl, o5⟩, hb5⟩
      have HB5 := Lib.hid (below_then HB3.out hb5)
      have HO5 := Lib.hid (own_below HO3.out hb5)
      have HJ := Lib.hid (cjoin_any v5 (d.cdn :: d.cdl) ⟨#[32]⟩ _ w5 (by simpa using o5) (by show (Lib.join (d.cdn :: d.cdl) [32]).length ≤ _; rw [join_dir]; have := HBND.out.2.2; omega) (by have := HBND.out.2.1; omega))
      obtain ⟨Y, hY⟩ : ∃ Y : ByteArray, Y = ⟨(Lib.join (d.cdn :: d.cdl) (⟨#[32]⟩ : ByteArray).data.toList).toArray⟩ := ⟨_, rfl⟩
      rw [← hY] at HJ
      have HY : Hid (strL (dirT d) = .string Y) := Lib.hid (by rw [hY, ← join_dir]; rfl)
      clear hb5 o5 hY
      go_wp2_with fail
      refine HJ.out.mono ?_
      rintro e w6 ⟨rfl, hb6⟩
      have HB6 := Lib.hid (below_then HB5.out hb6)
      have hown6 := own_below HO5.out hb6
      have hsz := HB6.out.size
      clear hb6
      go_wp2_with (at_builtin; go_loud (refine wpList_append1 rfl _ _ 27 rfl w.heap.size 9 rfl i0 (.string ByteArray.empty) 16 Try.underlying27 hi hz0 hz1 hz2 rfl _ _ _ rfl hown6 rfl rfl (by omega) (by omega) hsz ?_); intro v' w' hown' hb')
      go_roundw
      case rel =>
        refine ⟨k + 1, by omega, by go_num, Lib.hid ?_, Lib.hid (HB6.out.trans hb')⟩
        rw [HTK.out, List.map_append, List.map_append]
        show w'.ownsRow _ _ _ _ _ (_ ++ [strL (dirT d)])
        rw [HY.out]
        exact hown'
      case measure => simp [intOf]; omega
    · have HE : Hid (ds.take k = ds) := Lib.hid (List.take_of_length_le (by have := HNN.out; omega))
      have HKN : Hid (k = (ds.map dirT).length) := Lib.hid (by rw [List.length_map]; have := HNN.out; omega)
      have hoe := HO.out
      rw [HE.out, HKN.out] at hoe
      have HOE := Lib.hid hoe
      clear hoe
      have HJ := Lib.hid (cjoin_any _ (ds.map dirT) ⟨#[59, 32]⟩ w.heap.size w2 HOE.out (by
        show (Lib.join (ds.map dirT) [59, 32]).length ≤ _
        rw [join_csp]
        have h1 := cspT_len ds
        have h2 := HTT.out
        omega) (by rw [List.length_map]; have h1 := HNB.out; have h2 := HNN.out; omega))
      go_wp2_with fail
      refine HJ.out.mono ?_
      rintro e w4 ⟨rfl, hb4⟩
      have HB4 := Lib.hid (below_then HB.out hb4)
      clear hb4
      go_wp2_with fail
      go_ret
      refine ⟨?_, HB4.out⟩
      show Ending.returned (.string ⟨(Lib.join (ds.map dirT) [59, 32]).toArray⟩) = _
      rw [join_csp]

end Go.Proofs.Ytceajdpjablfiaa
