/-
  HeaderLists: a list of values is that of each of them, one behind the other, and what stands between commas is told trimmed; the law returns true for all lists, and what was there has not turned. No condition.
-/
import Derived.BigQuiet
import Derived.Laws.BitsLemmas
import Derived.Test.YtfgpcajjnpmoeaaProg
import Derived.Test.YtfgpcajjnpmoeaaKit
import Derived.Test.YtfgpcajjnpmoeaaLaw
import Derived.Test.YtfgpcajjnpmoeaaInfo
import Derived.Test.YtfgpcajjnpmoeaaAsc3
import Derived.Test.YtfgpcajjnpmoeaaAsc4
import Derived.Test.YtfgpcajjnpmoeaaRow
import Derived.Test.YtfgpcajjnpmoeaaJoin
import Derived.Test.YtfgpcajjnpmoeaaHst1
import Derived.Test.YtfgpcajjnpmoeaaHdr0
import Derived.Test.YtfgpcajjnpmoeaaHdr8
import Derived.Test.YtfgpcajjnpmoeaaHdr9
import Derived.Test.YtfgpcajjnpmoeaaHdr10
import Derived.Test.YtfgpcajjnpmoeaaHdr13
import Derived.Test.YtfgpcajjnpmoeaaHdr15
import Derived.Test.YtfgpcajjnpmoeaaHdr16
import Derived.Test.YtfgpcajjnpmoeaaHdr17
namespace Go.Proofs.Ytfgpcajjnpmoeaa
open Go.ChangeShapes Go.WideShapes Go.ChangeAt Go.RowKit Go.Proofs
open Go.ChangeMaps (open_string shut_string)

theorem headerLists_any {w : World} (va : Value) (za : List ByteArray) (ha : SliceAt w va (za.map strV)) (hla : za.length * 16 ≤ 140737488351232) (hza : ∀ z ∈ za, z.size ≤ 140737488351232) (hsa : SlV va)
    (vb : Value) (zb : List ByteArray) (hb : SliceAt w vb (zb.map strV)) (hlb : zb.length * 16 ≤ 140737488351232) (hzb : ∀ z ∈ zb, z.size ≤ 140737488351232) (hsb : SlV vb) :
    Calls Try.prog 8 #[va, vb] w fun e w' => e = .returned (.bool true) ∧ Below w.heap.size w w' := by
  obtain ⟨i0, hi, hz0, hz1, hz2⟩ := info_parts Try.infoStr
  have HT0 : Hid (Calls Try.prog 11 #[va, .int .i64 3000] w fun e w' => (∃ r : Int, e = .returned (.int .i64 r) ∧ 0 ≤ r ∧ r ≤ 1125899906842624 ∧ (r ≤ 3000 → (lsTot za : Int) ≤ r)) ∧ w' = w) := Lib.hid (total2_any va za 3000 w (by decide) (by omega) (fun z hzz => Nat.le_trans (hza z hzz) (by decide)) ha)
  have HT1 : Hid (Calls Try.prog 11 #[vb, .int .i64 3000] w fun e w' => (∃ r : Int, e = .returned (.int .i64 r) ∧ 0 ≤ r ∧ r ≤ 1125899906842624 ∧ (r ≤ 3000 → (lsTot zb : Int) ≤ r)) ∧ w' = w) := Lib.hid (total2_any vb zb 3000 w (by decide) (by omega) (fun z hzz => Nat.le_trans (hzb z hzz) (by decide)) hb)
  have HA := Lib.hid (fun W => hawake_any W)
  rw [← tx_strs] at ha hb
  have HSA := Lib.hid ha
  have HSB := Lib.hid hb
  have HSLA := Lib.hid hsa
  have HSLB := Lib.hid hsb
  obtain ⟨aa, ca, hva⟩ := ha.len
  obtain ⟨ab, cb, hvb⟩ := hb.len
  rw [List.length_map] at hva hvb
  subst hva hvb
  clear ha hla hza hsa hb hlb hzb hsb
  go_enter Try.func8, Try.ntmps8
  go_wp2_with fail
  refine HT0.out.mono ?_
  rintro e w1 ⟨⟨r1, rfl, p0, p1, p2⟩, rfl⟩
  have P2 := Lib.hid p2
  clear p2
  go_wp2_with fail
  refine HT1.out.mono ?_
  rintro e w2 ⟨⟨r2, rfl, q0, q1, q2⟩, rfl⟩
  have Q2 := Lib.hid q2
  clear q2
  by_cases hlong : 3000 < r1 + r2
  · go_wp2_with fail
    refine (HA.out _).mono ?_
    rintro e w3 ⟨rfl, hb3⟩
    go_wp2_with fail
    go_ret
    exact ⟨rfl, hb3⟩
  · have HTOT : Hid (lsTot za + lsTot zb ≤ 3000) := Lib.hid (by have h1 := P2.out (by omega); have h2 := Q2.out (by omega); omega)
    obtain ⟨xs, hxs⟩ : ∃ xs, xs = listL (tx za) := ⟨_, rfl⟩
    obtain ⟨ys, hys⟩ : ∃ ys, ys = listL (tx zb) := ⟨_, rfl⟩
    have HXT : Hid (llTot xs ≤ 3000 ∧ llTot ys ≤ 3000) := Lib.hid (by
      have h1 := list_tot (tx za)
      have h2 := list_tot (tx zb)
      rw [tx_tot] at h1 h2
      rw [hxs, hys]
      have := HTOT.out
      omega)
    have HNX : Hid (∀ x ∈ xs, NeatL x) := Lib.hid (by rw [hxs]; exact list_neat _)
    have HLA : Hid (∀ W, Below w2.heap.size w2 W → Calls Try.prog 16 #[.slice aa (tx za).length ca] W fun e w' => (∃ u, e = .returned u ∧ w'.ownsRow W.heap.size 9 1 u xs.length (xs.map strL)) ∧ Below W.heap.size W w') := Lib.hid (fun W hW => by rw [hxs]; exact list_any _ _ W (SliceAt.below HSA.out hW) (by rw [tx_tot]; have := HTOT.out; omega))
    have HLB : Hid (∀ W, Below w2.heap.size w2 W → Calls Try.prog 16 #[.slice ab (tx zb).length cb] W fun e w' => (∃ u, e = .returned u ∧ w'.ownsRow W.heap.size 9 1 u ys.length (ys.map strL)) ∧ Below W.heap.size W w') := Lib.hid (fun W hW => by rw [hys]; exact list_any _ _ W (SliceAt.below HSB.out hW) (by rw [tx_tot]; have := HTOT.out; omega))
    have HLC : Hid (∀ (W : World) (u : Value), SliceAt W u ((tx za ++ tx zb).map strL) → Calls Try.prog 16 #[u] W fun e w' => (∃ u, e = .returned u ∧ w'.ownsRow W.heap.size 9 1 u (xs ++ ys).length ((xs ++ ys).map strL)) ∧ Below W.heap.size W w') := Lib.hid (fun W u h => by
      rw [hxs, hys, ← listL_app]
      exact list_any _ _ W h (by rw [llTot_app, tx_tot, tx_tot]; have := HTOT.out; omega))
    have HLT : Hid (∀ (W : World) (u : Value) (T : ByteArray), T.data.toList = glueL xs → SliceAt W u ([.string T]) → Calls Try.prog 16 #[u] W fun e w' => (∃ u, e = .returned u ∧ w'.ownsRow W.heap.size 9 1 u xs.length (xs.map strL)) ∧ Below W.heap.size W w') := Lib.hid (fun W u T hT h => by
      have hl := list_any [glueL xs] u W (by rw [List.map_cons, List.map_nil, strL_of hT]; exact h) (by have h1 := glue_len xs; have h2 := HXT.out; simp only [llTot]; omega)
      rw [list_glue HNX.out] at hl
      exact hl)
    have HTX : Hid (∀ (l : List (List UInt8)) (W : World) (a b : Value), l.length ≤ 6000 → SliceAt W a (l.map strL) → SliceAt W b (l.map strL) → Calls Try.prog 15 #[a, b] W fun e w' => e = .returned (.bool true) ∧ ∃ m, w' = W.drewN m) := Lib.hid (fun l W a b hl h1 h2 => by
      have h := texts_any a b _ _ W h1 h2 (by omega) (by omega)
      rw [eqLL_yes rfl] at h
      exact h)
    have hlna : (tx za).length ≤ 3000 := by have h1 := llTot_len (tx za); rw [tx_tot] at h1; have := HTOT.out; omega
    have hlnb : (tx zb).length ≤ 3000 := by have h1 := llTot_len (tx zb); rw [tx_tot] at h1; have := HTOT.out; omega
    have HLNX : Hid (xs.length ≤ 3000 ∧ ys.length ≤ 3000) := Lib.hid (by have h1 := llTot_len xs; have h2 := llTot_len ys; have := HXT.out; omega)
    clear hxs hys
    go_wp2_with fail
    refine (HLA.out _ (Below.refl _ _)).mono ?_
    rintro e w3 ⟨⟨u3, rfl, o3⟩, hb3⟩
    have B3 := Lib.hid hb3
    have O3 := Lib.hid o3
    obtain ⟨a3, c3, rfl⟩ := own_len o3
    clear hb3 o3
    go_wp2_with fail
    refine (HLB.out _ B3.out).mono ?_
    rintro e w4 ⟨⟨u4, rfl, o4⟩, hb4⟩
    have B4 := Lib.hid (below_then B3.out hb4)
    have O34 := Lib.hid (own_below O3.out hb4)
    have O4 := Lib.hid o4
    obtain ⟨a4, c4, rfl⟩ := own_len o4
    have hl0 := own_lit0 w4 9
    have hsz4 : w4.heap.size ≤ (w4.alloc (.cells #[] 9)).heap.size := (below_more (Below.refl _ _) _).size
    have hsA := SliceAt.below HSA.out (below_more B4.out (.cells #[] 9))
    have hslA := HSLA.out
    have BA := Lib.hid (below_more (Below.refl w4.heap.size w4) (.cells #[] 9))
    clear hb4 o4
    go_wp2_with (first
      | (at_builtin; refine wpList_append_strs rfl _ _ 23 rfl w4.heap.size 9 i0 (.string ByteArray.empty) Try.underlying23 hi hz0 hz1 hz2 rfl _ _ _ rfl hl0 _ _ rfl hsA hslA strs_one (tx za).length (by rw [List.length_map]) (by omega) hsz4 ?_; intro v5 w5 o5 b5; have HB5 := Lib.hid (BA.out.trans b5); have hsB := SliceAt.below HSB.out (B4.out.trans (HB5.out.mono B4.out.size)); have hslB := HSLB.out; have hsz5 := HB5.out.size; clear hl0 hsA hslA hsz4 b5)
      | (at_builtin; refine wpList_append_strs rfl _ _ 23 rfl w4.heap.size 9 i0 (.string ByteArray.empty) Try.underlying23 hi hz0 hz1 hz2 rfl _ _ _ rfl o5 _ _ rfl hsB hslB strs_one (tx zb).length (by rw [List.length_map]) (by omega) hsz5 ?_; intro v6 w6 o6 b6; have HB6 := Lib.hid (HB5.out.trans b6); have O6 := Lib.hid o6; clear o5 o6 b6 hsB hslB hsz5))
    refine (HLC.out _ _ (by have h := SliceAt.own O6.out; rw [List.nil_append, ← List.map_append] at h; exact h)).mono ?_
    rintro e w7 ⟨⟨u7, rfl, o7⟩, hb7⟩
    have HB7 := Lib.hid (HB6.out.trans (hb7.mono HB6.out.size))
    have O7 := Lib.hid o7
    have O37 := Lib.hid (own_below O34.out HB7.out)
    have O47 := Lib.hid (own_below O4.out HB7.out)
    have B7 := Lib.hid (B4.out.trans (HB7.out.mono B4.out.size))
    obtain ⟨a7, c7, rfl⟩ := own_len o7
    have HS3 := Lib.hid (SliceAt.own O37.out)
    obtain ⟨n, hn⟩ : ∃ n, n = xs.length := ⟨_, rfl⟩
    have HNN := Lib.hid hn
    have HSV3 := Lib.hid (own_slv O37.out)
    have HSV4 := Lib.hid (own_slv O47.out)
    have HS4 := Lib.hid (SliceAt.own O47.out)
    have HS7 := Lib.hid (SliceAt.own O7.out)
    obtain ⟨m7, hm7⟩ : ∃ m7, m7 = (xs ++ ys).length := ⟨_, rfl⟩
    rw [← hm7] at HS7 ⊢
    rw [← hn] at HS3 HSV3 ⊢
    clear hb7 o7 hn hm7 hlna hlnb O37 O47 O7
    go_wp2_with fail
    go_loopw [8, 9] (fun t i wr => ∃ (k : Nat) (T : ByteArray), k ≤ n ∧ i = .int .i64 k ∧ t = .string T ∧ T.size ≤ 12000 ∧ Hid (T.data.toList = glueL (xs.take k)) ∧ Hid (∃ m, wr = w7.drewN m)) (fun _ i _ => n - (intOf i).toNat)
    case atStart => exact ⟨0, ⟨#[]⟩, Nat.zero_le _, rfl, rfl, Nat.zero_le _, Lib.hid rfl, Lib.hid ⟨0, rfl⟩⟩
    case round =>
      obtain ⟨k, T, hk, rfl, rfl, hTs, HTG, HM⟩ := hrel
      have hcell : ∀ p, wr.cell? p = w7.cell? p := by obtain ⟨m, rfl⟩ := HM.out; intro p; rfl
      have HCELL := Lib.hid hcell
      obtain ⟨w8, hw8⟩ : ∃ w8 : World, w8 = wr := ⟨_, rfl⟩
      subst hw8
      clear hcell
      by_cases hlt : k < n
      · obtain ⟨x, hxk⟩ : ∃ x, xs[k]? = some x := ⟨_, List.getElem?_eq_getElem (by rw [← HNN.out]; exact hlt)⟩
        obtain ⟨X, hX⟩ : ∃ X : ByteArray, X = ⟨x.toArray⟩ := ⟨_, rfl⟩
        have hXl : X.data.toList = x := by rw [hX]
        have hneat := HNX.out x (List.mem_of_getElem? hxk)
        obtain ⟨h0, lz, hln, hlz, e0, e1⟩ := neat_ends (X := X) (by rw [hXl]; exact hneat)
        obtain ⟨a, c, he, hcs⟩ := HS3.out
        rcases hcs with hnil | ⟨b, o, hb, hat⟩
        · exact absurd (show xs.length = 0 by rw [List.map_eq_nil_iff.1 hnil]; rfl) (by have := HNN.out; omega)
        subst hb
        injection he with f1 f2 f3
        subst f1 f3
        clear f2
        have c0 : w8.cell? ⟨b, o + k, none⟩ = some (.string X) := (HCELL.out _).trans (hat k _ (by rw [map_at hxk, ← hXl, strL_data]))
        have f32 := (isSp_no e0).1
        have f9 := (isSp_no e1).2
        have y := emptyNo (t := X) (by omega)
        have hxl : (X.size : Int) - 1 = (lz : Int) := by omega
        have hXs : X.size ≤ 3000 := by rw [hX, mk_size]; have h1 := llTot_mem (List.mem_of_getElem? hxk); have h2 := HXT.out; omega
        have hl6 : (lz : Int) < 3000 := by omega
        have hwl : IntKind.i64.wrap (lz : Int) = (lz : Int) := by rw [IntKind.wrap_i64]; omega
        have hli : (lz : Int) < (X.size : Int) := by omega
        have h0i : (0 : Int) < (X.size : Int) := by omega
        have hki : (k : Int) < (n : Int) := by omega
        have hk6 : (k : Int) < 3000 := by have := HNN.out; have := HLNX.out; omega
        have HGL : Hid ((glueL (xs.take (k + 1))).length ≤ 12000) := Lib.hid (by have h1 := glue_len (xs.take (k + 1)); have h2 := llTot_take xs (k + 1); have h3 := HXT.out; omega)
        have HTK := Lib.hid (take_succ_of hxk)
        have HXL := Lib.hid hXl
        have HC9 : Hid (∀ W, (∃ m, W = w8.drewN m) → W.cell? ⟨b, o + k, none⟩ = some (.string X)) := Lib.hid (by rintro W ⟨m, rfl⟩; exact c0)
        by_cases hk0 : k = 0
        · have hn0 : (0 < k) = False := eq_false (by omega)
          have HG : Hid ((T ++ X).data.toList = glueL (xs.take (k + 1))) := Lib.hid (by
            have h := HTG.out
            rw [HTK.out, happ, h, hk0, HXL.out]
            simp [glueL])
          have hTX : (T ++ X).size ≤ 12000 := by have h1 := HGL.out; rw [← HG.out, size_data] at h1; exact h1
          clear hneat e0 e1 hat hX hXl hxk hk0 hlz
          go_wp2_with fail
          go_quiet (fail)
          obtain ⟨w9, hw9⟩ : ∃ w9, w9 = w8.drewN nq := ⟨_, rfl⟩
          rw [← hw9]
          have c9 := HC9.out w9 ⟨_, hw9⟩
          have HM9 : Hid (∃ m, w9 = w7.drewN m) := Lib.hid (drewN_two HM.out ⟨_, hw9⟩)
          clear hw9 c0
          go_wp2_with fail
          go_roundw
          case rel => exact ⟨k + 1, T ++ X, by omega, by go_num, rfl, hTX, HG, HM9⟩
          case measure => simp [intOf]; omega
        · have hkp : 0 < k := by omega
          have HG : Hid ((T ++ ⟨#[32, 44, 9]⟩ ++ X).data.toList = glueL (xs.take (k + 1))) := Lib.hid (by
            rw [HTK.out, happ, happ, HTG.out, HXL.out, glue_snoc _ _ (by intro h; have := congrArg List.length h; rw [List.length_take, List.length_nil] at this; have := HNN.out; omega)])
          have hTX : (T ++ ⟨#[32, 44, 9]⟩ ++ X).size ≤ 12000 := by have h1 := HGL.out; rw [← HG.out, size_data] at h1; exact h1
          have hT3 : (T ++ ⟨#[32, 44, 9]⟩ : ByteArray).size ≤ 12003 := by rw [ByteArray.size_append]; show T.size + 3 ≤ _; omega
          clear hneat e0 e1 hat hX hXl hxk hk0 hlz
          go_wp2_with fail
          go_quiet (fail)
          obtain ⟨w9, hw9⟩ : ∃ w9, w9 = w8.drewN nq := ⟨_, rfl⟩
          rw [← hw9]
          have c9 := HC9.out w9 ⟨_, hw9⟩
          have HM9 : Hid (∃ m, w9 = w7.drewN m) := Lib.hid (drewN_two HM.out ⟨_, hw9⟩)
          clear hw9 c0
          go_wp2_with fail
          go_roundw
          case rel => exact ⟨k + 1, T ++ ⟨#[32, 44, 9]⟩ ++ X, by omega, by go_num, rfl, hTX, HG, HM9⟩
          case measure => simp [intOf]; omega
      · have HTE : Hid (T.data.toList = glueL xs) := Lib.hid (by
          have h := HTG.out
          rw [List.take_of_length_le (by have := HNN.out; omega)] at h
          exact h)
        have BM := Lib.hid (below_draws (Below.refl w7.heap.size w7) HM.out)
        have B8 := Lib.hid (below_then B7.out BM.out)
        have hl0 := own_lit0 w8 9
        have hsz8 : w8.heap.size ≤ (w8.alloc (.cells #[] 9)).heap.size := (below_more (Below.refl _ _) _).size
        have BA8 := Lib.hid (below_more (Below.refl w8.heap.size w8) (.cells #[] 9))
        have S38 := Lib.hid (SliceAt.below HS3.out BM.out)
        have S48 := Lib.hid (SliceAt.below HS4.out BM.out)
        have S78 := Lib.hid (SliceAt.below HS7.out BM.out)
        have hsA := SliceAt.below S38.out BA8.out
        have hslA := HSV3.out
        have hnx : n ≤ 3000 := by have := HNN.out; have := HLNX.out; omega
        have hny : ys.length ≤ 3000 := HLNX.out.2
        go_wp2_with (first
          | (at_builtin; refine wpList_append_strs rfl _ _ 23 rfl w8.heap.size 9 i0 (.string ByteArray.empty) Try.underlying23 hi hz0 hz1 hz2 rfl _ _ _ rfl hl0 _ _ rfl hsA hslA strs_one n (by rw [List.length_map, HNN.out]) (by omega) hsz8 ?_; intro v10 w10 o10 b10; have HB10 := Lib.hid (BA8.out.trans b10); have hsB := SliceAt.below S48.out HB10.out; have hslB := HSV4.out; have hsz10 := HB10.out.size; clear hl0 hsA hslA hsz8 b10)
          | (at_builtin; refine wpList_append_strs rfl _ _ 23 rfl w8.heap.size 9 i0 (.string ByteArray.empty) Try.underlying23 hi hz0 hz1 hz2 rfl _ _ _ rfl o10 _ _ rfl hsB hslB strs_one ys.length (by rw [List.length_map]) (by omega) hsz10 ?_; intro v11 w11 o11 b11; have HB11 := Lib.hid (HB10.out.trans b11); have O11 := Lib.hid o11; clear o10 o11 b11 hsB hslB hsz10))
        refine (HTX.out (xs ++ ys) _ _ _ (by rw [List.length_append]; have := HLNX.out; omega) (SliceAt.below S78.out HB11.out) (by have h := SliceAt.own O11.out; rw [List.nil_append, ← List.map_append] at h; exact h)).mono ?_
        rintro e w12 ⟨rfl, hm12⟩
        have HB12 := Lib.hid (below_draws HB11.out hm12)
        clear hm12
        go_wp2_with fail
        refine (HLT.out _ _ T HTE.out (SliceAt.lit _ _ _ _ _ rfl)).mono ?_
        rintro e w13 ⟨⟨u13, rfl, o13⟩, hb13⟩
        have HB13 := Lib.hid (below_then (below_more HB12.out _) hb13)
        have S13 := Lib.hid (SliceAt.own o13)
        clear hb13 o13
        go_wp2_with fail
        refine (HTX.out xs _ _ _ (by have := HLNX.out; omega) S13.out (SliceAt.below S38.out HB13.out)).mono ?_
        rintro e w14 ⟨rfl, hm14⟩
        have HB14 := Lib.hid (below_draws HB13.out hm14)
        clear hm14
        go_wp2_with fail
        refine (HA.out _).mono ?_
        rintro e w15 ⟨rfl, hb15⟩
        have HB15 := Lib.hid (below_then B8.out (below_then HB14.out hb15))
        clear hb15
        go_wp2_with fail
        go_ret
        exact ⟨rfl, HB15.out⟩

theorem headerLists_own : ownKnob Try.prog.godebug = none := by kernel_rfl

theorem headerLists_bytesStr : Try.prog.bytesOf 9 = 16 := by kernel_rfl

set_option maxRecDepth 100000 in
theorem headerLists_lifted (os : Os) (started : os.Started) (H : Type) (enc : TypeId × Value → H) :
    ReturnsInHanded {} Try.checked os 8 .any (Rows.headerListsSpec.pre6 enc Try.prog Try.f8 Rows.headerListsRow.domain false) (Rows.headerListsSpec.post enc Try.prog Try.f8 false true false false) := by
  refine law_lifted (C := Try.checked) headerLists_own started (by kernel_rfl) Try.func8
    (ChangeSpec.witness6 (enc := enc) (C := Try.checked) false ⟨#[], #[.slice none 0 0, .slice none 0 0], []⟩ 8 (by kernel_rfl) (by kernel_rfl) (by kernel_rfl) (by kernel_rfl))
    (by kernel_rfl) (of_decide_eq_true (by kernel_rfl)) (tb := 4) (by kernel_rfl) Try.underlying4 rfl (fun ds h => by match ds, h with | [d0, d1], _ => exact ⟨rfl, rfl, rfl⟩) ?_
  intro W base args ds p hval0 hA0 hlt hsz0
  have hval : ∀ (j : Nat) t v, Try.f8.params[j]? = some t → args[j]? = some v → Value.okWide Try.prog W .any base t v := hval0
  have hA : DataW.TrodAll enc Try.prog W 0 (fun _ => true) true Try.f8.params.toList args.toList ds p := hA0
  have hsz : (DataW.weightsEach Try.prog Try.f8.params.toList ds).all (· ≤ reachBytes) = true := hsz0
  rw [Try.params8] at hA hval hsz
  obtain ⟨v0, vs0, d0, ds0, p0, q0, hargs, rfl, rfl, h0, r0⟩ := trodAll_cons hA
  obtain ⟨v1, vs1, d1, ds1, p1, q1, rfl, rfl, rfl, h1, r1⟩ := trodAll_cons r0
  obtain ⟨rfl, rfl, rfl⟩ := trodAll_nil r1
  obtain rfl : args = #[v0, v1] := by cases args; simp_all
  have s0 := sized_at hsz (j := 0) (t := 23) (d := d0) rfl rfl
  have s1 := sized_at hsz (j := 1) (t := 23) (d := d1) rfl rfl
  obtain ⟨a0, g0, l0, z0, c0⟩ := open_texts_slv Try.underlying23 Try.underlying9 (by kernel_rfl) (hval 0 23 v0 rfl rfl) h0 s0
  rw [headerLists_bytesStr] at l0
  obtain ⟨a1, g1, l1, z1, c1⟩ := open_texts_slv Try.underlying23 Try.underlying9 (by kernel_rfl) (hval 1 23 v1 rfl rfl) h1 s1
  rw [headerLists_bytesStr] at l1
  exact headerLists_any (w := W) v0 a0 g0 l0 z0 c0 v1 a1 g1 l1 z1 c1

theorem headerLists_over : Rows.headerListsRow.holds Try.pinned (OpenSpec.ofChange Rows.headerListsSpec) :=
  OpenClaim.holds_of_wide 8 Try.f8 rfl rfl rfl rfl rfl rfl rfl ⟨rfl, rfl, rfl, rfl, rfl⟩ rfl rfl rfl rfl rfl (by kernel_rfl) Try.func8 (by kernel_rfl)
    (of_decide_eq_true (by kernel_rfl)) (by unfold Func.isWrapper; first | (rw [if_pos (by decide +kernel)]; kernel_rfl) | (rw [if_neg (by decide +kernel)]; exact ⟨rfl, rfl⟩))
    (fun os started H enc _ => headerLists_lifted os started H enc)

theorem headerLists_proved : Rows.HeaderListsSaid := headerLists_over
#print axioms headerLists_proved

end Go.Proofs.Ytfgpcajjnpmoeaa
