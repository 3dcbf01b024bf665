/- source: paths, the code's and the reference's. -/
import Derived.Test.YtnecjofgjbfheaaGreatDoorShelf
import Derived.BigQuiet
import Derived.BigRegion
import Derived.Deep.RegionHeld3
import Derived.Test.YtnecjofgjbfheaaGreatDoorProg
import Derived.Test.YtnecjofgjbfheaaGreatDoorKit
import Derived.Test.YtnecjofgjbfheaaGreatDoorAsc4
import Derived.Test.YtnecjofgjbfheaaGreatDoorRow
import Derived.Test.YtnecjofgjbfheaaGreatDoorPct0
import Derived.Test.YtnecjofgjbfheaaGreatDoorPct3
import Derived.Test.YtnecjofgjbfheaaGreatDoorHst0
import Derived.Test.YtnecjofgjbfheaaGreatDoorHst1
import Derived.Test.YtnecjofgjbfheaaGreatDoorHst4
import Derived.Test.YtnecjofgjbfheaaGreatDoorUrl0
import Derived.Test.YtnecjofgjbfheaaGreatDoorUrl4
import Derived.Test.YtnecjofgjbfheaaGreatDoorUrl9
import Derived.Test.YtnecjofgjbfheaaGreatDoorUrl12
import Derived.Test.YtnecjofgjbfheaaGreatDoorOrg0
import Derived.Test.YtnecjofgjbfheaaGreatDoorCsp1
import Derived.Test.YtnecjofgjbfheaaGreatDoorSrc0
import Derived.Test.YtnecjofgjbfheaaGreatDoorSrc10
namespace Go.Proofs.YtnecjofgjbfheaaGreatDoor
open Go.RowKit Go.Proofs
set_option maxRecDepth 100000

theorem own_ne {w : World} {base : Nat} {v : Value} {xs : List (List UInt8)} (h : w.ownsRow base 9 1 v xs.length (xs.map strL)) (hn : xs ≠ []) :
    ∃ g c, v = .slice (some ⟨g, 0, none⟩) xs.length c ∧ xs.length ≤ c ∧ ∀ (j : Nat) x, xs[j]? = some x → w.cell? ⟨g, j, none⟩ = some (strL x) := by
  have hs := strSl_own h
  rcases h.2 with ⟨_, h0⟩ | ⟨g, cap, cur, hv, hb, hh, hnc, _⟩
  · exact absurd (List.eq_nil_of_length_eq_zero h0) hn
  · refine ⟨g, cap, hv, hnc, fun j x hj => ?_⟩
    rcases hs with ⟨_, h0⟩ | ⟨b, o, c, cur2, fr, hv2, _, hat⟩
    · exact absurd h0 hn
    · rw [hv] at hv2
      injection hv2 with e1 _ _
      injection e1 with e1
      injection e1 with e1 e2 _
      subst e1 e2
      have := hat j x hj
      rw [Nat.zero_add] at this
      exact this

theorem piece_size {l p : List UInt8} {sep : UInt8} (h : p ∈ splitL l sep) : p.length ≤ l.length := by
  have := splitGo_size sep l [] p h
  simpa using this

theorem parts_at {p x : List UInt8} {j : Nat} (h : (partsM p)[j]? = some x) : (splitL p 47)[j]? = some x := by
  obtain ⟨k, hk⟩ := parts_pre p
  rw [hk, List.getElem?_take] at h
  split at h
  · exact h
  · cases h

theorem zip_more {a b : List (List UInt8)} {k : Nat} {x y : List UInt8} (h : ∀ (i : Nat) u v, i < k → a[i]? = some u → b[i]? = some v → decL u = decL v) (hx : a[k]? = some x) (hy : b[k]? = some y) (he : decL x = decL y) : ∀ (i : Nat) u v, i < k + 1 → a[i]? = some u → b[i]? = some v → decL u = decL v := by
  intro i u v hi hu hv
  by_cases hik : i = k
  · subst hik
    rw [hx] at hu
    rw [hy] at hv
    injection hu with hu
    injection hv with hv
    subst hu hv
    exact he
  · exact h i u v (by omega) hu hv

theorem exact_suf (p : List UInt8) : Lib.hasSuffix p [47] = decide (p.getLast? = some 47) := by
  show ([47] : List UInt8).isSuffixOf p = _
  rw [Bool.eq_iff_iff, List.isSuffixOf_iff_suffix, decide_eq_true_eq]
  constructor
  · rintro ⟨t, rfl⟩
    simp
  · intro h
    exact ⟨p.dropLast, by
      have hne : p ≠ [] := by rintro rfl; cases h
      have h2 := List.dropLast_concat_getLast hne
      rw [List.getLast?_eq_some_getLast hne] at h
      injection h with h
      rw [h] at h2
      exact h2⟩

set_option maxRecDepth 100000 in
set_option maxHeartbeats 8000000 in
theorem tma_any (P Q : ByteArray) (hp : P.size ≤ 1048576) (hq : Q.size ≤ 1048576) (w : World) :
    Calls Tryz.prog 19 #[.string P, .string Q] w fun e w' => e = .returned (.bool (tmaB P.data.toList Q.data.toList)) ∧ Below w.heap.size w w' := by
  obtain ⟨R, hR⟩ : ∃ R, R = tmaB P.data.toList Q.data.toList := ⟨_, rfl⟩
  rw [← hR]
  by_cases h0 : P.size = 0
  · have y := emptyYes h0
    have HR : Hid (R = true) := Lib.hid (hR.trans (tma_easy (.inl (List.eq_nil_of_length_eq_zero (by rw [size_data]; exact h0)))))
    clear h0 hR
    go_enter Tryz.func19, Tryz.ntmps19
    go_wp2_with fail
    go_ret
    exact ⟨by rw [HR.out] <;> rfl, Below.refl _ _⟩
  have y := emptyNo h0
  have hne := ne_of_size h0
  by_cases h1 : P.data.toList = [47] ∧ Q.size = 0
  · have q1 := lit_yes h1.1
    have y2 := emptyYes h1.2
    have HR : Hid (R = true) := Lib.hid (hR.trans (tma_easy (.inr ⟨h1.1, List.eq_nil_of_length_eq_zero (by rw [size_data]; exact h1.2)⟩)))
    clear h0 hR h1 hne
    go_enter Tryz.func19, Tryz.ntmps19
    go_wp2_with fail
    go_ret
    exact ⟨by rw [HR.out] <;> rfl, Below.refl _ _⟩
  have hhard : ¬ (P.data.toList = [] ∨ (P.data.toList = [47] ∧ Q.data.toList = [])) := by
    rintro (h | h)
    · exact hne h
    · exact h1 ⟨h.1, by rw [← size_data, h.2]; rfl⟩
  have hq1 : (P.toList == [47]) = decide (P.data.toList = [47]) := by
    rw [ByteArray.toList_eq, Bool.eq_iff_iff, beq_iff_eq, decide_eq_true_eq]
  have hq2 : P.data.toList = [47] → Q.toList.isEmpty = false := fun h => emptyNo (fun e => h1 ⟨h, e⟩)
  obtain ⟨a, ha⟩ : ∃ a, a = splitL P.data.toList 47 := ⟨_, rfl⟩
  obtain ⟨b, hb⟩ : ∃ b, b = splitL Q.data.toList 47 := ⟨_, rfl⟩
  have HSA : Hid (∀ W, Calls Tryz.prog 53 #[.string P, .int .u8 47] W fun e w' => (∃ v, e = .returned v ∧ w'.ownsRow W.heap.size 9 1 v a.length (a.map strL)) ∧ Below W.heap.size W w') := Lib.hid (fun W => by rw [ha]; exact split_any P 47 (by omega) W)
  have HSB : Hid (∀ W, Calls Tryz.prog 53 #[.string Q, .int .u8 47] W fun e w' => (∃ v, e = .returned v ∧ w'.ownsRow W.heap.size 9 1 v b.length (b.map strL)) ∧ Below W.heap.size W w') := Lib.hid (fun W => by rw [hb]; exact split_any Q 47 (by omega) W)
  have hapos : a ≠ [] := by rw [ha]; exact splitL_ne _ _
  have hbpos : b ≠ [] := by rw [hb]; exact splitL_ne _ _
  have halen : a.length ≤ 1048577 := by rw [ha]; exact Nat.le_trans (splitL_len _ _) (by rw [size_data]; omega)
  have hblen : b.length ≤ 1048577 := by rw [hb]; exact Nat.le_trans (splitL_len _ _) (by rw [size_data]; omega)
  have HAS : Hid (∀ x ∈ a, x.length ≤ 1048576) := Lib.hid (fun x hx => by rw [ha] at hx; exact Nat.le_trans (piece_size hx) (by rw [size_data]; exact hp))
  have HBS : Hid (∀ x ∈ b, x.length ≤ 1048576) := Lib.hid (fun x hx => by rw [hb] at hx; exact Nat.le_trans (piece_size hx) (by rw [size_data]; exact hq))
  obtain ⟨E, hE⟩ : ∃ E, E = exactB P.data.toList := ⟨_, rfl⟩
  have HLEN : Hid ((b.length < a.length ∨ (E = true ∧ a.length < b.length)) → R = false) := Lib.hid (fun h => by rw [hR]; exact tma_len hhard (by rw [← ha, ← hb, ← hE]; exact h))
  have HZIP : Hid (¬ (b.length < a.length ∨ (E = true ∧ a.length < b.length)) → R = zipB (partsM P.data.toList) b) := Lib.hid (fun h => by rw [hR, tma_zip hhard (by rw [← ha, ← hb, ← hE]; exact h), ← hb])
  have HPA : Hid (∀ (j : Nat) x, (partsM P.data.toList)[j]? = some x → a[j]? = some x) := Lib.hid (fun j x h => by rw [ha]; exact parts_at h)
  have HPL : Hid ((partsM P.data.toList).length = if E = true then a.length else a.length - 1) := Lib.hid (by rw [parts_len, hE, ha])
  have HSF : Hid (∀ W, Calls Tryz.prog 50 #[.string P, .string ⟨#[47]⟩] W fun e w' => e = .returned (.bool !E) ∧ w' = W) := Lib.hid (fun W => by
    have h := Tryz.strings_HasSuffix P ⟨#[47]⟩ W (by omega)
    rw [show (⟨#[47]⟩ : ByteArray).data.toList = [47] from rfl, exact_suf] at h
    rw [hE]
    unfold exactB
    rw [Bool.not_not]
    exact h)
  obtain ⟨na, hna⟩ : ∃ na, na = a.length := ⟨_, rfl⟩
  obtain ⟨nb, hnb⟩ : ∃ nb, nb = b.length := ⟨_, rfl⟩
  have ha1 : 1 ≤ na := by rw [hna]; exact List.length_pos_iff.2 hapos
  have hb1 : 1 ≤ nb := by rw [hnb]; exact List.length_pos_iff.2 hbpos
  rw [← hna, ← hnb] at HLEN HZIP
  rw [← hna] at HPL halen
  rw [← hnb] at hblen
  have HNA := Lib.hid hna
  have HNB := Lib.hid hnb
  have HAP := Lib.hid hapos
  have HBP := Lib.hid hbpos
  clear hR hne h1 hhard ha hb hE hapos hbpos hna hnb h0
  cases hq47 : decide (P.data.toList = [47])
  · rw [hq47] at hq1
    clear hq2 hq47
    go_enter Tryz.func19, Tryz.ntmps19
    go_wp2_with fail
    refine (HSA.out _).mono ?_
    rintro e w1 ⟨⟨va, rfl, hoa⟩, hba⟩
    obtain ⟨ga, ca, rfl, hca, hcla⟩ := own_ne hoa HAP.out
    rw [← HNA.out] at hca ⊢
    have HB1 := Lib.hid hba
    have HCA1 := Lib.hid hcla
    clear hoa hba hcla
    go_wp2_with fail
    refine (HSB.out _).mono ?_
    rintro e w2 ⟨⟨vb, rfl, hob⟩, hbb⟩
    obtain ⟨gb, cb, rfl, hcb, hclb⟩ := own_ne hob HBP.out
    rw [← HNB.out] at hcb ⊢
    have HB2 := Lib.hid (below_then HB1.out hbb)
    have HCA : Hid (∀ (j : Nat) x, a[j]? = some x → w2.cell? ⟨ga, j, none⟩ = some (strL x)) := Lib.hid (fun j x h => cell_stays (HCA1.out j x h) hbb)
    have HCB := Lib.hid hclb
    clear hob hbb hclb HCA1
    go_wp2_with fail
    refine (HSF.out _).mono ?_
    rintro e w3 ⟨rfl, rfl⟩
    by_cases hlt : nb < na
    · have c1 : (nb : Int) < (na : Int) := by omega
      have HQ := Lib.hid (HLEN.out (.inl hlt))
      clear hlt
      cases E
      · go_wp2_with fail
        go_ret
        exact ⟨by rw [HQ.out] <;> rfl, HB2.out⟩
      · go_wp2_with fail
        go_ret
        exact ⟨by rw [HQ.out] <;> rfl, HB2.out⟩
    have c1 : ¬ (nb : Int) < (na : Int) := by omega
    cases E
    · have HZ := Lib.hid (HZIP.out (by rintro (h | h); exact absurd h (by omega); exact absurd h.1 (by decide)))
      obtain ⟨n, hn⟩ : ∃ n, n + 1 = na := ⟨na - 1, by omega⟩
      have HN : Hid ((partsM P.data.toList).length = n) := Lib.hid (by rw [HPL.out, if_neg (by decide)]; omega)
      subst hn
      have hcz : ((n : Nat) : Int) ≤ (ca : Int) := by omega
      have hnn : n ≤ nb := by omega
      clear HLEN HZIP HPL
      go_wp2_with fail
      clear c1
      go_loopw [51] (fun j wr => ∃ k : Nat, k ≤ n ∧ j = .int .i64 k ∧ Hid (∀ (i : Nat) u v, i < k → (partsM P.data.toList)[i]? = some u → b[i]? = some v → decL u = decL v) ∧ Hid (Below w3.heap.size w3 wr)) (fun j _ => n - (intOf j).toNat)
      case atStart => exact ⟨0, Nat.zero_le _, rfl, Lib.hid (fun i u v h => absurd h (Nat.not_lt_zero _)), Lib.hid (Below.refl _ _)⟩
      case round =>
        obtain ⟨k, hk, rfl, HI, HBR⟩ := hrel
        obtain ⟨w4, hw4⟩ : ∃ w4 : World, w4 = wr := ⟨_, rfl⟩
        subst hw4
        by_cases hkt : k < n
        · obtain ⟨X, hX⟩ : ∃ X : ByteArray, (partsM P.data.toList)[k]? = some X.data.toList := by
            obtain ⟨x, hx⟩ : ∃ x, (partsM P.data.toList)[k]? = some x := ⟨_, List.getElem?_eq_getElem (by rw [HN.out]; exact hkt)⟩
            exact ⟨⟨x.toArray⟩, hx⟩
          obtain ⟨Y, hY⟩ : ∃ Y : ByteArray, b[k]? = some Y.data.toList := by
            obtain ⟨x, hx⟩ : ∃ x, b[k]? = some x := ⟨_, List.getElem?_eq_getElem (by rw [← HNB.out]; omega)⟩
            exact ⟨⟨x.toArray⟩, hx⟩
          have hXa := HPA.out k _ hX
          have c0 : w4.cell? ⟨ga, k, none⟩ = some (.string X) := by rw [← strL_data]; exact cell_stays (HCA.out k _ hXa) HBR.out
          have d0 : w4.cell? ⟨gb, k, none⟩ = some (.string Y) := by rw [← strL_data]; exact cell_stays (HCB.out k _ hY) HBR.out
          have hXs : X.size ≤ 1048576 := by have := HAS.out _ (List.mem_of_getElem? hXa); rw [size_data] at this; exact this
          have hYs : Y.size ≤ 1048576 := by have := HBS.out _ (List.mem_of_getElem? hY); rw [size_data] at this; exact this
          have hki : (k : Int) < (n : Nat) := by omega
          have hkb : (k : Int) < (nb : Int) := by omega
          have hk6 : (k : Int) < 1048578 := by omega
          have HXY := Lib.hid (And.intro hX hY)
          have HPS := Lib.hid (fun W => same_any9 X Y (by omega) (by omega) W)
          clear hX hY hXa hXs hYs
          by_cases he : decL X.data.toList = decL Y.data.toList
          · rw [decide_eq_true he] at HPS
            have HI2 := Lib.hid (zip_more HI.out HXY.out.1 HXY.out.2 he)
            clear he HXY
            go_wp2_with fail
            refine (HPS.out _).mono ?_
            rintro e w5 ⟨rfl, hb5⟩
            have HB5 := Lib.hid (below_then HBR.out hb5)
            clear hb5
            go_wp2_with fail
            go_roundw
            case rel => exact ⟨k + 1, by omega, by go_num, HI2, HB5⟩
            case measure => simp [intOf]; omega
          · rw [decide_eq_false he] at HPS
            have HQ : Hid (R = false) := Lib.hid (by rw [HZ.out]; exact zip_no HXY.out.1 HXY.out.2 he)
            clear he HXY
            go_wp2_with fail
            refine (HPS.out _).mono ?_
            rintro e w5 ⟨rfl, hb5⟩
            have HB5 := Lib.hid (below_then HB2.out (below_then HBR.out hb5))
            clear hb5
            go_wp2_with fail
            go_ret
            exact ⟨by rw [HQ.out] <;> rfl, HB5.out⟩
        · have HQ : Hid (R = true) := Lib.hid (by
            rw [HZ.out]
            refine zip_yes (fun i x y hx hy => HI.out i x y ?_ hx hy)
            have := (List.getElem?_eq_some_iff.1 hx).1
            rw [HN.out] at this
            omega)
          have hge : ¬ (k : Int) < (n : Nat) := by omega
          go_wp2_with fail
          go_ret
          exact ⟨by rw [HQ.out] <;> rfl, below_then HB2.out HBR.out⟩
    · by_cases hlt2 : na < nb
      · have c2 : (na : Int) < (nb : Int) := by omega
        have HQ := Lib.hid (HLEN.out (.inr ⟨rfl, hlt2⟩))
        clear hlt2
        go_wp2_with fail
        go_ret
        exact ⟨by rw [HQ.out] <;> rfl, HB2.out⟩
      · have c2 : ¬ (na : Int) < (nb : Int) := by omega
        have HZ := Lib.hid (HZIP.out (by rintro (h | h); exact absurd h (by omega); exact absurd h.2 hlt2))
        have HN : Hid ((partsM P.data.toList).length = na) := Lib.hid (by rw [HPL.out, if_pos rfl])
        have hnn : na ≤ nb := by omega
        clear HLEN HZIP HPL
        go_wp2_with fail
        clear c1 c2
        go_loopw [51] (fun j wr => ∃ k : Nat, k ≤ na ∧ j = .int .i64 k ∧ Hid (∀ (i : Nat) u v, i < k → (partsM P.data.toList)[i]? = some u → b[i]? = some v → decL u = decL v) ∧ Hid (Below w3.heap.size w3 wr)) (fun j _ => na - (intOf j).toNat)
        case atStart => exact ⟨0, Nat.zero_le _, rfl, Lib.hid (fun i u v h => absurd h (Nat.not_lt_zero _)), Lib.hid (Below.refl _ _)⟩
        case round =>
          obtain ⟨k, hk, rfl, HI, HBR⟩ := hrel
          obtain ⟨w4, hw4⟩ : ∃ w4 : World, w4 = wr := ⟨_, rfl⟩
          subst hw4
          by_cases hkt : k < na
          · obtain ⟨X, hX⟩ : ∃ X : ByteArray, (partsM P.data.toList)[k]? = some X.data.toList := by
              obtain ⟨x, hx⟩ : ∃ x, (partsM P.data.toList)[k]? = some x := ⟨_, List.getElem?_eq_getElem (by rw [HN.out]; exact hkt)⟩
              exact ⟨⟨x.toArray⟩, hx⟩
            obtain ⟨Y, hY⟩ : ∃ Y : ByteArray, b[k]? = some Y.data.toList := by
              obtain ⟨x, hx⟩ : ∃ x, b[k]? = some x := ⟨_, List.getElem?_eq_getElem (by rw [← HNB.out]; omega)⟩
              exact ⟨⟨x.toArray⟩, hx⟩
            have hXa := HPA.out k _ hX
            have c0 : w4.cell? ⟨ga, k, none⟩ = some (.string X) := by rw [← strL_data]; exact cell_stays (HCA.out k _ hXa) HBR.out
            have d0 : w4.cell? ⟨gb, k, none⟩ = some (.string Y) := by rw [← strL_data]; exact cell_stays (HCB.out k _ hY) HBR.out
            have hXs : X.size ≤ 1048576 := by have := HAS.out _ (List.mem_of_getElem? hXa); rw [size_data] at this; exact this
            have hYs : Y.size ≤ 1048576 := by have := HBS.out _ (List.mem_of_getElem? hY); rw [size_data] at this; exact this
            have hki : (k : Int) < (na : Nat) := by omega
            have hkb : (k : Int) < (nb : Int) := by omega
            have hk6 : (k : Int) < 1048578 := by omega
            have HXY := Lib.hid (And.intro hX hY)
            have HPS := Lib.hid (fun W => same_any9 X Y (by omega) (by omega) W)
            clear hX hY hXa hXs hYs
            by_cases he : decL X.data.toList = decL Y.data.toList
            · rw [decide_eq_true he] at HPS
              have HI2 := Lib.hid (zip_more HI.out HXY.out.1 HXY.out.2 he)
              clear he HXY
              go_wp2_with fail
              refine (HPS.out _).mono ?_
              rintro e w5 ⟨rfl, hb5⟩
              have HB5 := Lib.hid (below_then HBR.out hb5)
              clear hb5
              go_wp2_with fail
              go_roundw
              case rel => exact ⟨k + 1, by omega, by go_num, HI2, HB5⟩
              case measure => simp [intOf]; omega
            · rw [decide_eq_false he] at HPS
              have HQ : Hid (R = false) := Lib.hid (by rw [HZ.out]; exact zip_no HXY.out.1 HXY.out.2 he)
              clear he HXY
              go_wp2_with fail
              refine (HPS.out _).mono ?_
              rintro e w5 ⟨rfl, hb5⟩
              have HB5 := Lib.hid (below_then HB2.out (below_then HBR.out hb5))
              clear hb5
              go_wp2_with fail
              go_ret
              exact ⟨by rw [HQ.out] <;> rfl, HB5.out⟩
          · have HQ : Hid (R = true) := Lib.hid (by
              rw [HZ.out]
              refine zip_yes (fun i x y hx hy => HI.out i x y ?_ hx hy)
              have := (List.getElem?_eq_some_iff.1 hx).1
              rw [HN.out] at this
              omega)
            have hge : ¬ (k : Int) < (na : Nat) := by omega
            go_wp2_with fail
            go_ret
            exact ⟨by rw [HQ.out] <;> rfl, below_then HB2.out HBR.out⟩
  · rw [hq47] at hq1
    have y2 := hq2 (of_decide_eq_true hq47)
    clear hq2 hq47
    go_enter Tryz.func19, Tryz.ntmps19
    go_wp2_with fail
    refine (HSA.out _).mono ?_
    rintro e w1 ⟨⟨va, rfl, hoa⟩, hba⟩
    obtain ⟨ga, ca, rfl, hca, hcla⟩ := own_ne hoa HAP.out
    rw [← HNA.out] at hca ⊢
    have HB1 := Lib.hid hba
    have HCA1 := Lib.hid hcla
    clear hoa hba hcla
    go_wp2_with fail
    refine (HSB.out _).mono ?_
    rintro e w2 ⟨⟨vb, rfl, hob⟩, hbb⟩
    obtain ⟨gb, cb, rfl, hcb, hclb⟩ := own_ne hob HBP.out
    rw [← HNB.out] at hcb ⊢
    have HB2 := Lib.hid (below_then HB1.out hbb)
    have HCA : Hid (∀ (j : Nat) x, a[j]? = some x → w2.cell? ⟨ga, j, none⟩ = some (strL x)) := Lib.hid (fun j x h => cell_stays (HCA1.out j x h) hbb)
    have HCB := Lib.hid hclb
    clear hob hbb hclb HCA1
    go_wp2_with fail
    refine (HSF.out _).mono ?_
    rintro e w3 ⟨rfl, rfl⟩
    by_cases hlt : nb < na
    · have c1 : (nb : Int) < (na : Int) := by omega
      have HQ := Lib.hid (HLEN.out (.inl hlt))
      clear hlt
      cases E
      · go_wp2_with fail
        go_ret
        exact ⟨by rw [HQ.out] <;> rfl, HB2.out⟩
      · go_wp2_with fail
        go_ret
        exact ⟨by rw [HQ.out] <;> rfl, HB2.out⟩
    have c1 : ¬ (nb : Int) < (na : Int) := by omega
    cases E
    · have HZ := Lib.hid (HZIP.out (by rintro (h | h); exact absurd h (by omega); exact absurd h.1 (by decide)))
      obtain ⟨n, hn⟩ : ∃ n, n + 1 = na := ⟨na - 1, by omega⟩
      have HN : Hid ((partsM P.data.toList).length = n) := Lib.hid (by rw [HPL.out, if_neg (by decide)]; omega)
      subst hn
      have hcz : ((n : Nat) : Int) ≤ (ca : Int) := by omega
      have hnn : n ≤ nb := by omega
      clear HLEN HZIP HPL
      go_wp2_with fail
      clear c1
      go_loopw [51] (fun j wr => ∃ k : Nat, k ≤ n ∧ j = .int .i64 k ∧ Hid (∀ (i : Nat) u v, i < k → (partsM P.data.toList)[i]? = some u → b[i]? = some v → decL u = decL v) ∧ Hid (Below w3.heap.size w3 wr)) (fun j _ => n - (intOf j).toNat)
      case atStart => exact ⟨0, Nat.zero_le _, rfl, Lib.hid (fun i u v h => absurd h (Nat.not_lt_zero _)), Lib.hid (Below.refl _ _)⟩
      case round =>
        obtain ⟨k, hk, rfl, HI, HBR⟩ := hrel
        obtain ⟨w4, hw4⟩ : ∃ w4 : World, w4 = wr := ⟨_, rfl⟩
        subst hw4
        by_cases hkt : k < n
        · obtain ⟨X, hX⟩ : ∃ X : ByteArray, (partsM P.data.toList)[k]? = some X.data.toList := by
            obtain ⟨x, hx⟩ : ∃ x, (partsM P.data.toList)[k]? = some x := ⟨_, List.getElem?_eq_getElem (by rw [HN.out]; exact hkt)⟩
            exact ⟨⟨x.toArray⟩, hx⟩
          obtain ⟨Y, hY⟩ : ∃ Y : ByteArray, b[k]? = some Y.data.toList := by
            obtain ⟨x, hx⟩ : ∃ x, b[k]? = some x := ⟨_, List.getElem?_eq_getElem (by rw [← HNB.out]; omega)⟩
            exact ⟨⟨x.toArray⟩, hx⟩
          have hXa := HPA.out k _ hX
          have c0 : w4.cell? ⟨ga, k, none⟩ = some (.string X) := by rw [← strL_data]; exact cell_stays (HCA.out k _ hXa) HBR.out
          have d0 : w4.cell? ⟨gb, k, none⟩ = some (.string Y) := by rw [← strL_data]; exact cell_stays (HCB.out k _ hY) HBR.out
          have hXs : X.size ≤ 1048576 := by have := HAS.out _ (List.mem_of_getElem? hXa); rw [size_data] at this; exact this
          have hYs : Y.size ≤ 1048576 := by have := HBS.out _ (List.mem_of_getElem? hY); rw [size_data] at this; exact this
          have hki : (k : Int) < (n : Nat) := by omega
          have hkb : (k : Int) < (nb : Int) := by omega
          have hk6 : (k : Int) < 1048578 := by omega
          have HXY := Lib.hid (And.intro hX hY)
          have HPS := Lib.hid (fun W => same_any9 X Y (by omega) (by omega) W)
          clear hX hY hXa hXs hYs
          by_cases he : decL X.data.toList = decL Y.data.toList
          · rw [decide_eq_true he] at HPS
            have HI2 := Lib.hid (zip_more HI.out HXY.out.1 HXY.out.2 he)
            clear he HXY
            go_wp2_with fail
            refine (HPS.out _).mono ?_
            rintro e w5 ⟨rfl, hb5⟩
            have HB5 := Lib.hid (below_then HBR.out hb5)
            clear hb5
            go_wp2_with fail
            go_roundw
            case rel => exact ⟨k + 1, by omega, by go_num, HI2, HB5⟩
            case measure => simp [intOf]; omega
          · rw [decide_eq_false he] at HPS
            have HQ : Hid (R = false) := Lib.hid (by rw [HZ.out]; exact zip_no HXY.out.1 HXY.out.2 he)
            clear he HXY
            go_wp2_with fail
            refine (HPS.out _).mono ?_
            rintro e w5 ⟨rfl, hb5⟩
            have HB5 := Lib.hid (below_then HB2.out (below_then HBR.out hb5))
            clear hb5
            go_wp2_with fail
            go_ret
            exact ⟨by rw [HQ.out] <;> rfl, HB5.out⟩
        · have HQ : Hid (R = true) := Lib.hid (by
            rw [HZ.out]
            refine zip_yes (fun i x y hx hy => HI.out i x y ?_ hx hy)
            have := (List.getElem?_eq_some_iff.1 hx).1
            rw [HN.out] at this
            omega)
          have hge : ¬ (k : Int) < (n : Nat) := by omega
          go_wp2_with fail
          go_ret
          exact ⟨by rw [HQ.out] <;> rfl, below_then HB2.out HBR.out⟩
    · by_cases hlt2 : na < nb
      · have c2 : (na : Int) < (nb : Int) := by omega
        have HQ := Lib.hid (HLEN.out (.inr ⟨rfl, hlt2⟩))
        clear hlt2
        go_wp2_with fail
        go_ret
        exact ⟨by rw [HQ.out] <;> rfl, HB2.out⟩
      · have c2 : ¬ (na : Int) < (nb : Int) := by omega
        have HZ := Lib.hid (HZIP.out (by rintro (h | h); exact absurd h (by omega); exact absurd h.2 hlt2))
        have HN : Hid ((partsM P.data.toList).length = na) := Lib.hid (by rw [HPL.out, if_pos rfl])
        have hnn : na ≤ nb := by omega
        clear HLEN HZIP HPL
        go_wp2_with fail
        clear c1 c2
        go_loopw [51] (fun j wr => ∃ k : Nat, k ≤ na ∧ j = .int .i64 k ∧ Hid (∀ (i : Nat) u v, i < k → (partsM P.data.toList)[i]? = some u → b[i]? = some v → decL u = decL v) ∧ Hid (Below w3.heap.size w3 wr)) (fun j _ => na - (intOf j).toNat)
        case atStart => exact ⟨0, Nat.zero_le _, rfl, Lib.hid (fun i u v h => absurd h (Nat.not_lt_zero _)), Lib.hid (Below.refl _ _)⟩
        case round =>
          obtain ⟨k, hk, rfl, HI, HBR⟩ := hrel
          obtain ⟨w4, hw4⟩ : ∃ w4 : World, w4 = wr := ⟨_, rfl⟩
          subst hw4
          by_cases hkt : k < na
          · obtain ⟨X, hX⟩ : ∃ X : ByteArray, (partsM P.data.toList)[k]? = some X.data.toList := by
              obtain ⟨x, hx⟩ : ∃ x, (partsM P.data.toList)[k]? = some x := ⟨_, List.getElem?_eq_getElem (by rw [HN.out]; exact hkt)⟩
              exact ⟨⟨x.toArray⟩, hx⟩
            obtain ⟨Y, hY⟩ : ∃ Y : ByteArray, b[k]? = some Y.data.toList := by
              obtain ⟨x, hx⟩ : ∃ x, b[k]? = some x := ⟨_, List.getElem?_eq_getElem (by rw [← HNB.out]; omega)⟩
              exact ⟨⟨x.toArray⟩, hx⟩
            have hXa := HPA.out k _ hX
            have c0 : w4.cell? ⟨ga, k, none⟩ = some (.string X) := by rw [← strL_data]; exact cell_stays (HCA.out k _ hXa) HBR.out
            have d0 : w4.cell? ⟨gb, k, none⟩ = some (.string Y) := by rw [← strL_data]; exact cell_stays (HCB.out k _ hY) HBR.out
            have hXs : X.size ≤ 1048576 := by have := HAS.out _ (List.mem_of_getElem? hXa); rw [size_data] at this; exact this
            have hYs : Y.size ≤ 1048576 := by have := HBS.out _ (List.mem_of_getElem? hY); rw [size_data] at this; exact this
            have hki : (k : Int) < (na : Nat) := by omega
            have hkb : (k : Int) < (nb : Int) := by omega
            have hk6 : (k : Int) < 1048578 := by omega
            have HXY := Lib.hid (And.intro hX hY)
            have HPS := Lib.hid (fun W => same_any9 X Y (by omega) (by omega) W)
            clear hX hY hXa hXs hYs
            by_cases he : decL X.data.toList = decL Y.data.toList
            · rw [decide_eq_true he] at HPS
              have HI2 := Lib.hid (zip_more HI.out HXY.out.1 HXY.out.2 he)
              clear he HXY
              go_wp2_with fail
              refine (HPS.out _).mono ?_
              rintro e w5 ⟨rfl, hb5⟩
              have HB5 := Lib.hid (below_then HBR.out hb5)
              clear hb5
              go_wp2_with fail
              go_roundw
              case rel => exact ⟨k + 1, by omega, by go_num, HI2, HB5⟩
              case measure => simp [intOf]; omega
            · rw [decide_eq_false he] at HPS
              have HQ : Hid (R = false) := Lib.hid (by rw [HZ.out]; exact zip_no HXY.out.1 HXY.out.2 he)
              clear he HXY
              go_wp2_with fail
              refine (HPS.out _).mono ?_
              rintro e w5 ⟨rfl, hb5⟩
              have HB5 := Lib.hid (below_then HB2.out (below_then HBR.out hb5))
              clear hb5
              go_wp2_with fail
              go_ret
              exact ⟨by rw [HQ.out] <;> rfl, HB5.out⟩
          · have HQ : Hid (R = true) := Lib.hid (by
              rw [HZ.out]
              refine zip_yes (fun i x y hx hy => HI.out i x y ?_ hx hy)
              have := (List.getElem?_eq_some_iff.1 hx).1
              rw [HN.out] at this
              omega)
            have hge : ¬ (k : Int) < (na : Nat) := by omega
            go_wp2_with fail
            go_ret
            exact ⟨by rw [HQ.out] <;> rfl, below_then HB2.out HBR.out⟩

theorem snone_any (S H : ByteArray) (p : Int) (w : World) :
    Calls Tryz.prog 99 #[.agg #[.string S, .string H, .int .i64 p]] w fun e w' => e = .returned (.bool (decide (noneO ⟨S.data.toList, H.data.toList, p⟩))) ∧ Below w.heap.size w w' := by
  obtain ⟨B, hB⟩ : ∃ B, B = decide (noneO ⟨S.data.toList, H.data.toList, p⟩) := ⟨_, rfl⟩
  have EQ : ∀ W, (binOp .eql 42 (.agg #[.string S, .string H, .int .i64 p]) (.agg #[.string ⟨#[]⟩, .string ⟨#[]⟩, .int .i64 0])).run Tryz.prog W = .ok (.bool B) W := fun W => by rw [hB]; exact orgEq S H ⟨#[]⟩ ⟨#[]⟩ p 0 W
  rw [← hB]
  have HB := Lib.hid (below_more (Below.refl _ w) (.cells #[.string S, .string H, .int .i64 p] 42))
  clear hB
  go_enter Tryz.func99, Tryz.ntmps99
  go_wp2_with fail
  go_ret
  exact ⟨rfl, HB.out⟩

/-- Two blocks made one after the other. -/
theorem two_rows (w : World) (A B : List Value) (T1 T2 : TypeId) : Rw ((w.alloc (.cells A.toArray T1)).alloc (.cells B.toArray T2)) 0 w.heap.size T1 A ∧ Rw ((w.alloc (.cells A.toArray T1)).alloc (.cells B.toArray T2)) 0 (w.heap.size + 1) T2 B ∧ Below w.heap.size w ((w.alloc (.cells A.toArray T1)).alloc (.cells B.toArray T2)) := by
  have hs : (w.alloc (.cells A.toArray T1)).heap.size = w.heap.size + 1 := Array.size_push ..
  refine ⟨Rw.more (Rw.alloc w T1 A.toArray (Nat.zero_le _)) _, ?_, below_more (below_more (Below.refl _ _) _) _⟩
  have h := Rw.alloc (w.alloc (.cells A.toArray T1)) T2 B.toArray (Nat.zero_le _)
  rw [hs] at h
  exact h

theorem three_rows (w : World) (A B C : List Value) (T1 T2 T3 : TypeId) : Rw (((w.alloc (.cells A.toArray T1)).alloc (.cells B.toArray T2)).alloc (.cells C.toArray T3)) 0 w.heap.size T1 A ∧ Rw (((w.alloc (.cells A.toArray T1)).alloc (.cells B.toArray T2)).alloc (.cells C.toArray T3)) 0 (w.heap.size + 1) T2 B ∧ Rw (((w.alloc (.cells A.toArray T1)).alloc (.cells B.toArray T2)).alloc (.cells C.toArray T3)) 0 (w.heap.size + 2) T3 C ∧ Below w.heap.size w (((w.alloc (.cells A.toArray T1)).alloc (.cells B.toArray T2)).alloc (.cells C.toArray T3)) := by
  obtain ⟨h1, h2, h3⟩ := two_rows w A B T1 T2
  have hs : ((w.alloc (.cells A.toArray T1)).alloc (.cells B.toArray T2)).heap.size = w.heap.size + 2 := by
    show ((w.heap.push _).push _).size = _
    rw [Array.size_push, Array.size_push]
  refine ⟨Rw.more h1 _, Rw.more h2 _, ?_, below_more h3 _⟩
  have h := Rw.alloc ((w.alloc (.cells A.toArray T1)).alloc (.cells B.toArray T2)) T3 C.toArray (Nat.zero_le _)
  rw [hs] at h
  exact h

set_option maxHeartbeats 4000000 in
theorem ssamep_any (S U P H T Q F : ByteArray) (pt : Int) (hq hf : Bool) (S2 H2 : ByteArray) (p2 : Int) (w : World) :
    Calls Tryz.prog 100 #[.agg #[.string S, .string U, .string P, .string H, .int .i64 pt, .string T, .bool hq, .string Q, .bool hf, .string F], .agg #[.string S2, .string H2, .int .i64 p2]] w fun e w' => e = .returned (.bool (decide (p2 = pU S.data.toList pt) || (normB S2.data.toList p2 && normB S.data.toList (pU S.data.toList pt)))) ∧ Below w.heap.size w w' := by
  have HPT : Hid (∀ W, Calls Tryz.prog 57 #[.agg #[.string S, .string U, .string P, .string H, .int .i64 pt, .string T, .bool hq, .string Q, .bool hf, .string F]] W fun e w' => e = .returned (.int .i64 (pU S.data.toList pt)) ∧ Below W.heap.size W w') := Lib.hid (fun W => uPortU_any S U P H T Q F pt hq hf W)
  obtain ⟨p, hp⟩ : ∃ p, p = pU S.data.toList pt := ⟨_, rfl⟩
  rw [← hp] at HPT ⊢
  have HN2 := Lib.hid (fun W => susual_any S2 p2 W)
  have HN1 := Lib.hid (fun W => susual_any S p W)
  obtain ⟨b2, hb2⟩ : ∃ b2, b2 = normB S2.data.toList p2 := ⟨_, rfl⟩
  obtain ⟨b1, hb1⟩ : ∃ b1, b1 = normB S.data.toList p := ⟨_, rfl⟩
  rw [← hb2] at HN2 ⊢
  rw [← hb1] at HN1 ⊢
  clear hp hb2 hb1
  obtain ⟨r1, r2, r3⟩ := two_rows w [.string S, .string U, .string P, .string H, .int .i64 pt, .string T, .bool hq, .string Q, .bool hf, .string F] [.string S2, .string H2, .int .i64 p2] 31 42
  obtain ⟨w2, hw2⟩ : ∃ w2, w2 = (w.alloc (.cells #[.string S, .string U, .string P, .string H, .int .i64 pt, .string T, .bool hq, .string Q, .bool hf, .string F] 31)).alloc (.cells #[.string S2, .string H2, .int .i64 p2] 42) := ⟨_, rfl⟩
  have HU2 : Hid (Rw w2 0 w.heap.size 31 [.string S, .string U, .string P, .string H, .int .i64 pt, .string T, .bool hq, .string Q, .bool hf, .string F]) := Lib.hid (by rw [hw2]; exact r1)
  have HO2 : Hid (Rw w2 0 (w.heap.size + 1) 42 [.string S2, .string H2, .int .i64 p2]) := Lib.hid (by rw [hw2]; exact r2)
  have HB2 : Hid (Below w.heap.size w w2) := Lib.hid (by rw [hw2]; exact r3)
  have k0 := Rw.cell r1 (j := 0) rfl
  have k1 := Rw.cell r1 (j := 1) rfl
  have k2 := Rw.cell r1 (j := 2) rfl
  have k3 := Rw.cell r1 (j := 3) rfl
  have k4 := Rw.cell r1 (j := 4) rfl
  have k5 := Rw.cell r1 (j := 5) rfl
  have k6 := Rw.cell r1 (j := 6) rfl
  have k7 := Rw.cell r1 (j := 7) rfl
  have k8 := Rw.cell r1 (j := 8) rfl
  have k9 := Rw.cell r1 (j := 9) rfl
  have o0 := Rw.cell r2 (j := 0) rfl
  have o1 := Rw.cell r2 (j := 1) rfl
  have o2 := Rw.cell r2 (j := 2) rfl
  clear r1 r2 r3
  by_cases hpp : p2 = p
  · have q : (p2 == p) = true := by rw [beq_iff_eq]; exact hpp
    rw [decide_eq_true hpp]
    clear hpp
    go_enter Tryz.func100, Tryz.ntmps100
    go_wp2_with fail
    rw [← hw2]
    clear hw2
    refine (HPT.out _).mono ?_
    rintro e w3 ⟨rfl, hb⟩
    have HB3 := Lib.hid (below_then HB2.out hb)
    have hu3 := Rw.below HU2.out hb
    have ho3 := Rw.below HO2.out hb
    have HU3 := Lib.hid hu3
    have HO3 := Lib.hid ho3
    clear k0 k1 k2 k3 k4 k5 k6 k7 k8 k9 o0 o1 o2 hb
    have k0 := Rw.cell hu3 (j := 0) rfl
    have k1 := Rw.cell hu3 (j := 1) rfl
    have k2 := Rw.cell hu3 (j := 2) rfl
    have k3 := Rw.cell hu3 (j := 3) rfl
    have k4 := Rw.cell hu3 (j := 4) rfl
    have k5 := Rw.cell hu3 (j := 5) rfl
    have k6 := Rw.cell hu3 (j := 6) rfl
    have k7 := Rw.cell hu3 (j := 7) rfl
    have k8 := Rw.cell hu3 (j := 8) rfl
    have k9 := Rw.cell hu3 (j := 9) rfl
    have o0 := Rw.cell ho3 (j := 0) rfl
    have o1 := Rw.cell ho3 (j := 1) rfl
    have o2 := Rw.cell ho3 (j := 2) rfl
    clear hu3 ho3
    go_wp2_with fail
    go_ret
    exact ⟨rfl, HB3.out⟩
  have q : (p2 == p) = false := by rw [beq_eq_false_iff_ne]; exact hpp
  rw [decide_eq_false hpp, Bool.false_or]
  clear hpp
  cases b2
  · skip
    go_enter Tryz.func100, Tryz.ntmps100
    go_wp2_with fail
    rw [← hw2]
    clear hw2
    refine (HPT.out _).mono ?_
    rintro e w3 ⟨rfl, hb⟩
    have HB3 := Lib.hid (below_then HB2.out hb)
    have hu3 := Rw.below HU2.out hb
    have ho3 := Rw.below HO2.out hb
    have HU3 := Lib.hid hu3
    have HO3 := Lib.hid ho3
    clear k0 k1 k2 k3 k4 k5 k6 k7 k8 k9 o0 o1 o2 hb
    have k0 := Rw.cell hu3 (j := 0) rfl
    have k1 := Rw.cell hu3 (j := 1) rfl
    have k2 := Rw.cell hu3 (j := 2) rfl
    have k3 := Rw.cell hu3 (j := 3) rfl
    have k4 := Rw.cell hu3 (j := 4) rfl
    have k5 := Rw.cell hu3 (j := 5) rfl
    have k6 := Rw.cell hu3 (j := 6) rfl
    have k7 := Rw.cell hu3 (j := 7) rfl
    have k8 := Rw.cell hu3 (j := 8) rfl
    have k9 := Rw.cell hu3 (j := 9) rfl
    have o0 := Rw.cell ho3 (j := 0) rfl
    have o1 := Rw.cell ho3 (j := 1) rfl
    have o2 := Rw.cell ho3 (j := 2) rfl
    clear hu3 ho3
    go_wp2_with fail
    refine (HN2.out _).mono ?_
    rintro e w4 ⟨rfl, rfl⟩
    go_wp2_with fail
    go_ret
    exact ⟨by simp, HB3.out⟩
  · skip
    go_enter Tryz.func100, Tryz.ntmps100
    go_wp2_with fail
    rw [← hw2]
    clear hw2
    refine (HPT.out _).mono ?_
    rintro e w3 ⟨rfl, hb⟩
    have HB3 := Lib.hid (below_then HB2.out hb)
    have hu3 := Rw.below HU2.out hb
    have ho3 := Rw.below HO2.out hb
    have HU3 := Lib.hid hu3
    have HO3 := Lib.hid ho3
    clear k0 k1 k2 k3 k4 k5 k6 k7 k8 k9 o0 o1 o2 hb
    have k0 := Rw.cell hu3 (j := 0) rfl
    have k1 := Rw.cell hu3 (j := 1) rfl
    have k2 := Rw.cell hu3 (j := 2) rfl
    have k3 := Rw.cell hu3 (j := 3) rfl
    have k4 := Rw.cell hu3 (j := 4) rfl
    have k5 := Rw.cell hu3 (j := 5) rfl
    have k6 := Rw.cell hu3 (j := 6) rfl
    have k7 := Rw.cell hu3 (j := 7) rfl
    have k8 := Rw.cell hu3 (j := 8) rfl
    have k9 := Rw.cell hu3 (j := 9) rfl
    have o0 := Rw.cell ho3 (j := 0) rfl
    have o1 := Rw.cell ho3 (j := 1) rfl
    have o2 := Rw.cell ho3 (j := 2) rfl
    clear hu3 ho3
    go_wp2_with fail
    refine (HN2.out _).mono ?_
    rintro e w4 ⟨rfl, rfl⟩
    go_wp2_with fail
    refine (HN1.out _).mono ?_
    rintro e w5 ⟨rfl, rfl⟩
    go_wp2_with fail
    go_ret
    exact ⟨by simp, HB3.out⟩

def secM (a : AskM) (o : OrgM) : Bool := !decide (noneO o) && (decide (o.oho = a.aho) && ((decide (o.opo = a.apo) || (normB o.osc o.opo && normB a.asc a.apo)) && (decide (a.asc = httpsL) || decide (a.asc = wssL) || (decide (o.osc = httpL) && decide (a.asc = wsL)))))

theorem self_sec (a : AskM) (o : OrgM) : selfM a o = (sameO o (askO a) || secM a o) := rfl

set_option maxHeartbeats 8000000 in
theorem ssec_any (S U P H T Q F : ByteArray) (pt : Int) (hq hf : Bool) (S2 H2 : ByteArray) (p2 : Int) (w : World) :
    Calls Tryz.prog 64 #[.agg #[.string S, .string U, .string P, .string H, .int .i64 pt, .string T, .bool hq, .string Q, .bool hf, .string F], .agg #[.string S2, .string H2, .int .i64 p2]] w fun e w' => e = .returned (.bool (secM ⟨S.data.toList, H.data.toList, pU S.data.toList pt, T.data.toList⟩ ⟨S2.data.toList, H2.data.toList, p2⟩)) ∧ Below w.heap.size w w' := by
  obtain ⟨R, hR⟩ : ∃ R, R = secM ⟨S.data.toList, H.data.toList, pU S.data.toList pt, T.data.toList⟩ ⟨S2.data.toList, H2.data.toList, p2⟩ := ⟨_, rfl⟩
  rw [← hR]
  unfold secM at hR
  dsimp only at hR
  have HNO := Lib.hid (fun W => snone_any S2 H2 p2 W)
  obtain ⟨n, hn⟩ : ∃ n, n = decide (noneO ⟨S2.data.toList, H2.data.toList, p2⟩) := ⟨_, rfl⟩
  rw [← hn] at HNO hR
  have HSP := Lib.hid (fun W => ssamep_any S U P H T Q F pt hq hf S2 H2 p2 W)
  obtain ⟨sp, hsp⟩ : ∃ sp, sp = (decide (p2 = pU S.data.toList pt) || (normB S2.data.toList p2 && normB S.data.toList (pU S.data.toList pt))) := ⟨_, rfl⟩
  rw [← hsp] at HSP hR
  clear hn hsp
  obtain ⟨r1, r2, r3⟩ := two_rows w [.string S, .string U, .string P, .string H, .int .i64 pt, .string T, .bool hq, .string Q, .bool hf, .string F] [.string S2, .string H2, .int .i64 p2] 31 42
  obtain ⟨w2, hw2⟩ : ∃ w2, w2 = (w.alloc (.cells #[.string S, .string U, .string P, .string H, .int .i64 pt, .string T, .bool hq, .string Q, .bool hf, .string F] 31)).alloc (.cells #[.string S2, .string H2, .int .i64 p2] 42) := ⟨_, rfl⟩
  have HU2 : Hid (Rw w2 0 w.heap.size 31 [.string S, .string U, .string P, .string H, .int .i64 pt, .string T, .bool hq, .string Q, .bool hf, .string F]) := Lib.hid (by rw [hw2]; exact r1)
  have HO2 : Hid (Rw w2 0 (w.heap.size + 1) 42 [.string S2, .string H2, .int .i64 p2]) := Lib.hid (by rw [hw2]; exact r2)
  have HB2 : Hid (Below w.heap.size w w2) := Lib.hid (by rw [hw2]; exact r3)
  have k0 := Rw.cell r1 (j := 0) rfl
  have k1 := Rw.cell r1 (j := 1) rfl
  have k2 := Rw.cell r1 (j := 2) rfl
  have k3 := Rw.cell r1 (j := 3) rfl
  have k4 := Rw.cell r1 (j := 4) rfl
  have k5 := Rw.cell r1 (j := 5) rfl
  have k6 := Rw.cell r1 (j := 6) rfl
  have k7 := Rw.cell r1 (j := 7) rfl
  have k8 := Rw.cell r1 (j := 8) rfl
  have k9 := Rw.cell r1 (j := 9) rfl
  have o0 := Rw.cell r2 (j := 0) rfl
  have o1 := Rw.cell r2 (j := 1) rfl
  have o2 := Rw.cell r2 (j := 2) rfl
  clear r1 r2 r3
  cases n
  case true =>
    have HR : Hid (R = false) := Lib.hid hR
    clear hR
    go_enter Tryz.func64, Tryz.ntmps64
    go_wp2_with fail
    rw [← hw2]
    clear hw2
    refine (HNO.out _).mono ?_
    rintro e w3 ⟨rfl, hb⟩
    have HB3 := Lib.hid (below_then HB2.out hb)
    have hu3 := Rw.below HU2.out hb
    have ho3 := Rw.below HO2.out hb
    have HU3 := Lib.hid hu3
    have HO3 := Lib.hid ho3
    clear k0 k1 k2 k3 k4 k5 k6 k7 k8 k9 o0 o1 o2 hb
    have k0 := Rw.cell hu3 (j := 0) rfl
    have k1 := Rw.cell hu3 (j := 1) rfl
    have k2 := Rw.cell hu3 (j := 2) rfl
    have k3 := Rw.cell hu3 (j := 3) rfl
    have k4 := Rw.cell hu3 (j := 4) rfl
    have k5 := Rw.cell hu3 (j := 5) rfl
    have k6 := Rw.cell hu3 (j := 6) rfl
    have k7 := Rw.cell hu3 (j := 7) rfl
    have k8 := Rw.cell hu3 (j := 8) rfl
    have k9 := Rw.cell hu3 (j := 9) rfl
    have o0 := Rw.cell ho3 (j := 0) rfl
    have o1 := Rw.cell ho3 (j := 1) rfl
    have o2 := Rw.cell ho3 (j := 2) rfl
    clear hu3 ho3
    go_wp2_with fail
    go_ret
    exact ⟨by rw [HR.out] <;> rfl, HB3.out⟩
  case false =>
    rw [Bool.not_false, Bool.true_and] at hR
    by_cases hh : H2.data.toList = H.data.toList
    case neg =>
      have qh : (H2.toList != H.toList) = true := by rw [bne_iff_ne, ByteArray.toList_eq, ByteArray.toList_eq]; exact hh
      have qh2 := txts_ne hh
      have HR : Hid (R = false) := Lib.hid (by rw [hR, decide_eq_false hh]; rfl)
      clear hR hh
      go_enter Tryz.func64, Tryz.ntmps64
      go_wp2_with fail
      rw [← hw2]
      clear hw2
      refine (HNO.out _).mono ?_
      rintro e w3 ⟨rfl, hb⟩
      have HB3 := Lib.hid (below_then HB2.out hb)
      have hu3 := Rw.below HU2.out hb
      have ho3 := Rw.below HO2.out hb
      have HU3 := Lib.hid hu3
      have HO3 := Lib.hid ho3
      clear k0 k1 k2 k3 k4 k5 k6 k7 k8 k9 o0 o1 o2 hb
      have k0 := Rw.cell hu3 (j := 0) rfl
      have k1 := Rw.cell hu3 (j := 1) rfl
      have k2 := Rw.cell hu3 (j := 2) rfl
      have k3 := Rw.cell hu3 (j := 3) rfl
      have k4 := Rw.cell hu3 (j := 4) rfl
      have k5 := Rw.cell hu3 (j := 5) rfl
      have k6 := Rw.cell hu3 (j := 6) rfl
      have k7 := Rw.cell hu3 (j := 7) rfl
      have k8 := Rw.cell hu3 (j := 8) rfl
      have k9 := Rw.cell hu3 (j := 9) rfl
      have o0 := Rw.cell ho3 (j := 0) rfl
      have o1 := Rw.cell ho3 (j := 1) rfl
      have o2 := Rw.cell ho3 (j := 2) rfl
      clear hu3 ho3
      go_wp2_with fail
      go_ret
      exact ⟨by rw [HR.out] <;> rfl, HB3.out⟩
    case pos =>
      have qh : (H2.toList != H.toList) = false := by rw [bne_eq_false_iff_eq, ByteArray.toList_eq, ByteArray.toList_eq]; exact hh
      have qh2 := txts_eq hh
      rw [decide_eq_true hh, Bool.true_and] at hR
      clear hh
      cases sp
      case false =>
        have HR : Hid (R = false) := Lib.hid hR
        clear hR
        go_enter Tryz.func64, Tryz.ntmps64
        go_wp2_with fail
        rw [← hw2]
        clear hw2
        refine (HNO.out _).mono ?_
        rintro e w3 ⟨rfl, hb⟩
        have HB3 := Lib.hid (below_then HB2.out hb)
        have hu3 := Rw.below HU2.out hb
        have ho3 := Rw.below HO2.out hb
        have HU3 := Lib.hid hu3
        have HO3 := Lib.hid ho3
        clear k0 k1 k2 k3 k4 k5 k6 k7 k8 k9 o0 o1 o2 hb
        have k0 := Rw.cell hu3 (j := 0) rfl
        have k1 := Rw.cell hu3 (j := 1) rfl
        have k2 := Rw.cell hu3 (j := 2) rfl
        have k3 := Rw.cell hu3 (j := 3) rfl
        have k4 := Rw.cell hu3 (j := 4) rfl
        have k5 := Rw.cell hu3 (j := 5) rfl
        have k6 := Rw.cell hu3 (j := 6) rfl
        have k7 := Rw.cell hu3 (j := 7) rfl
        have k8 := Rw.cell hu3 (j := 8) rfl
        have k9 := Rw.cell hu3 (j := 9) rfl
        have o0 := Rw.cell ho3 (j := 0) rfl
        have o1 := Rw.cell ho3 (j := 1) rfl
        have o2 := Rw.cell ho3 (j := 2) rfl
        clear hu3 ho3
        go_wp2_with fail
        refine (HSP.out _).mono ?_
        rintro e w4 ⟨rfl, hb⟩
        have HB4 := Lib.hid (below_then HB3.out hb)
        have hu4 := Rw.below HU3.out hb
        have ho4 := Rw.below HO3.out hb
        clear k0 k1 k2 k3 k4 k5 k6 k7 k8 k9 o0 o1 o2
        have k0 := Rw.cell hu4 (j := 0) rfl
        have k1 := Rw.cell hu4 (j := 1) rfl
        have k2 := Rw.cell hu4 (j := 2) rfl
        have k3 := Rw.cell hu4 (j := 3) rfl
        have k4 := Rw.cell hu4 (j := 4) rfl
        have k5 := Rw.cell hu4 (j := 5) rfl
        have k6 := Rw.cell hu4 (j := 6) rfl
        have k7 := Rw.cell hu4 (j := 7) rfl
        have k8 := Rw.cell hu4 (j := 8) rfl
        have k9 := Rw.cell hu4 (j := 9) rfl
        have o0 := Rw.cell ho4 (j := 0) rfl
        have o1 := Rw.cell ho4 (j := 1) rfl
        have o2 := Rw.cell ho4 (j := 2) rfl
        have HU4 := Lib.hid hu4
        have HO4 := Lib.hid ho4
        clear hb hu4 ho4
        go_wp2_with fail
        go_ret
        exact ⟨by rw [HR.out] <;> rfl, HB4.out⟩
      case true =>
        rw [Bool.true_and] at hR
        have HA : Hid (∀ v W, SliceAt W v ([⟨#[104, 116, 116, 112, 115]⟩, ⟨#[119, 115, 115]⟩].map strV) → Calls Tryz.prog 47 #[.string S, v] W fun e w' => e = .returned (.bool (decide (S.data.toList = httpsL) || decide (S.data.toList = wssL))) ∧ w' = W) := Lib.hid (fun v W h => by
          have e : hasS [⟨#[104, 116, 116, 112, 115]⟩, ⟨#[119, 115, 115]⟩] S = (decide (S.data.toList = httpsL) || decide (S.data.toList = wssL)) := by
            rw [has_cons, has_cons, hasS_nil, Bool.or_false]
            rfl
          rw [← e]
          exact any_any v _ S W (by decide) h)
        obtain ⟨av, hav⟩ : ∃ av, av = (decide (S.data.toList = httpsL) || decide (S.data.toList = wssL)) := ⟨_, rfl⟩
        rw [← hav] at HA hR
        clear hav
        cases av
        case true =>
          have HR : Hid (R = true) := Lib.hid hR
          clear hR
          go_enter Tryz.func64, Tryz.ntmps64
          go_wp2_with fail
          rw [← hw2]
          clear hw2
          refine (HNO.out _).mono ?_
          rintro e w3 ⟨rfl, hb⟩
          have HB3 := Lib.hid (below_then HB2.out hb)
          have hu3 := Rw.below HU2.out hb
          have ho3 := Rw.below HO2.out hb
          have HU3 := Lib.hid hu3
          have HO3 := Lib.hid ho3
          clear k0 k1 k2 k3 k4 k5 k6 k7 k8 k9 o0 o1 o2 hb
          have k0 := Rw.cell hu3 (j := 0) rfl
          have k1 := Rw.cell hu3 (j := 1) rfl
          have k2 := Rw.cell hu3 (j := 2) rfl
          have k3 := Rw.cell hu3 (j := 3) rfl
          have k4 := Rw.cell hu3 (j := 4) rfl
          have k5 := Rw.cell hu3 (j := 5) rfl
          have k6 := Rw.cell hu3 (j := 6) rfl
          have k7 := Rw.cell hu3 (j := 7) rfl
          have k8 := Rw.cell hu3 (j := 8) rfl
          have k9 := Rw.cell hu3 (j := 9) rfl
          have o0 := Rw.cell ho3 (j := 0) rfl
          have o1 := Rw.cell ho3 (j := 1) rfl
          have o2 := Rw.cell ho3 (j := 2) rfl
          clear hu3 ho3
          go_wp2_with fail
          refine (HSP.out _).mono ?_
          rintro e w4 ⟨rfl, hb⟩
          have HB4 := Lib.hid (below_then HB3.out hb)
          have hu4 := Rw.below HU3.out hb
          have ho4 := Rw.below HO3.out hb
          clear k0 k1 k2 k3 k4 k5 k6 k7 k8 k9 o0 o1 o2
          have k0 := Rw.cell hu4 (j := 0) rfl
          have k1 := Rw.cell hu4 (j := 1) rfl
          have k2 := Rw.cell hu4 (j := 2) rfl
          have k3 := Rw.cell hu4 (j := 3) rfl
          have k4 := Rw.cell hu4 (j := 4) rfl
          have k5 := Rw.cell hu4 (j := 5) rfl
          have k6 := Rw.cell hu4 (j := 6) rfl
          have k7 := Rw.cell hu4 (j := 7) rfl
          have k8 := Rw.cell hu4 (j := 8) rfl
          have k9 := Rw.cell hu4 (j := 9) rfl
          have o0 := Rw.cell ho4 (j := 0) rfl
          have o1 := Rw.cell ho4 (j := 1) rfl
          have o2 := Rw.cell ho4 (j := 2) rfl
          have HU4 := Lib.hid hu4
          have HO4 := Lib.hid ho4
          clear hb hu4 ho4
          have HSL : Hid (SliceAt (w4.alloc (.cells #[.string ⟨#[104, 116, 116, 112, 115]⟩, .string ⟨#[119, 115, 115]⟩] 9)) (.slice (some ⟨w4.heap.size, 0, none⟩) 2 2) ([⟨#[104, 116, 116, 112, 115]⟩, ⟨#[119, 115, 115]⟩].map strV)) := Lib.hid (SliceAt.lit w4 _ _ _ _ rfl)
          obtain ⟨w5, hw5⟩ : ∃ w5, w5 = w4.alloc (.cells #[.string ⟨#[104, 116, 116, 112, 115]⟩, .string ⟨#[119, 115, 115]⟩] 9) := ⟨_, rfl⟩
          have HB5 : Hid (Below w.heap.size w w5) := Lib.hid (by rw [hw5]; exact below_more HB4.out _)
          have hu5 : Rw w5 0 w.heap.size 31 [.string S, .string U, .string P, .string H, .int .i64 pt, .string T, .bool hq, .string Q, .bool hf, .string F] := by rw [hw5]; exact Rw.more HU4.out _
          have ho5 : Rw w5 0 (w.heap.size + 1) 42 [.string S2, .string H2, .int .i64 p2] := by rw [hw5]; exact Rw.more HO4.out _
          rw [← hw5] at HSL
          go_wp2_with fail
          rw [← hw5]
          clear hw5 k0 k1 k2 k3 k4 k5 k6 k7 k8 k9 o0 o1 o2
          have k0 := Rw.cell hu5 (j := 0) rfl
          have k1 := Rw.cell hu5 (j := 1) rfl
          have k2 := Rw.cell hu5 (j := 2) rfl
          have k3 := Rw.cell hu5 (j := 3) rfl
          have k4 := Rw.cell hu5 (j := 4) rfl
          have k5 := Rw.cell hu5 (j := 5) rfl
          have k6 := Rw.cell hu5 (j := 6) rfl
          have k7 := Rw.cell hu5 (j := 7) rfl
          have k8 := Rw.cell hu5 (j := 8) rfl
          have k9 := Rw.cell hu5 (j := 9) rfl
          have o0 := Rw.cell ho5 (j := 0) rfl
          have o1 := Rw.cell ho5 (j := 1) rfl
          have o2 := Rw.cell ho5 (j := 2) rfl
          clear hu5 ho5
          refine (HA.out _ _ HSL.out).mono ?_
          rintro e w6 ⟨rfl, rfl⟩
          go_wp2_with fail
          go_ret
          exact ⟨by rw [HR.out] <;> rfl, HB5.out⟩
        case false =>
          rw [Bool.false_or] at hR
          by_cases h1 : S2.data.toList = httpL
          case neg =>
            have q1 : (S2.toList == [104, 116, 116, 112]) = false := lit_no h1
            have HR : Hid (R = false) := Lib.hid (by rw [hR, decide_eq_false h1]; rfl)
            clear hR h1
            go_enter Tryz.func64, Tryz.ntmps64
            go_wp2_with fail
            rw [← hw2]
            clear hw2
            refine (HNO.out _).mono ?_
            rintro e w3 ⟨rfl, hb⟩
            have HB3 := Lib.hid (below_then HB2.out hb)
            have hu3 := Rw.below HU2.out hb
            have ho3 := Rw.below HO2.out hb
            have HU3 := Lib.hid hu3
            have HO3 := Lib.hid ho3
            clear k0 k1 k2 k3 k4 k5 k6 k7 k8 k9 o0 o1 o2 hb
            have k0 := Rw.cell hu3 (j := 0) rfl
            have k1 := Rw.cell hu3 (j := 1) rfl
            have k2 := Rw.cell hu3 (j := 2) rfl
            have k3 := Rw.cell hu3 (j := 3) rfl
            have k4 := Rw.cell hu3 (j := 4) rfl
            have k5 := Rw.cell hu3 (j := 5) rfl
            have k6 := Rw.cell hu3 (j := 6) rfl
            have k7 := Rw.cell hu3 (j := 7) rfl
            have k8 := Rw.cell hu3 (j := 8) rfl
            have k9 := Rw.cell hu3 (j := 9) rfl
            have o0 := Rw.cell ho3 (j := 0) rfl
            have o1 := Rw.cell ho3 (j := 1) rfl
            have o2 := Rw.cell ho3 (j := 2) rfl
            clear hu3 ho3
            go_wp2_with fail
            refine (HSP.out _).mono ?_
            rintro e w4 ⟨rfl, hb⟩
            have HB4 := Lib.hid (below_then HB3.out hb)
            have hu4 := Rw.below HU3.out hb
            have ho4 := Rw.below HO3.out hb
            clear k0 k1 k2 k3 k4 k5 k6 k7 k8 k9 o0 o1 o2
            have k0 := Rw.cell hu4 (j := 0) rfl
            have k1 := Rw.cell hu4 (j := 1) rfl
            have k2 := Rw.cell hu4 (j := 2) rfl
            have k3 := Rw.cell hu4 (j := 3) rfl
            have k4 := Rw.cell hu4 (j := 4) rfl
            have k5 := Rw.cell hu4 (j := 5) rfl
            have k6 := Rw.cell hu4 (j := 6) rfl
            have k7 := Rw.cell hu4 (j := 7) rfl
            have k8 := Rw.cell hu4 (j := 8) rfl
            have k9 := Rw.cell hu4 (j := 9) rfl
            have o0 := Rw.cell ho4 (j := 0) rfl
            have o1 := Rw.cell ho4 (j := 1) rfl
            have o2 := Rw.cell ho4 (j := 2) rfl
            have HU4 := Lib.hid hu4
            have HO4 := Lib.hid ho4
            clear hb hu4 ho4
            have HSL : Hid (SliceAt (w4.alloc (.cells #[.string ⟨#[104, 116, 116, 112, 115]⟩, .string ⟨#[119, 115, 115]⟩] 9)) (.slice (some ⟨w4.heap.size, 0, none⟩) 2 2) ([⟨#[104, 116, 116, 112, 115]⟩, ⟨#[119, 115, 115]⟩].map strV)) := Lib.hid (SliceAt.lit w4 _ _ _ _ rfl)
            obtain ⟨w5, hw5⟩ : ∃ w5, w5 = w4.alloc (.cells #[.string ⟨#[104, 116, 116, 112, 115]⟩, .string ⟨#[119, 115, 115]⟩] 9) := ⟨_, rfl⟩
            have HB5 : Hid (Below w.heap.size w w5) := Lib.hid (by rw [hw5]; exact below_more HB4.out _)
            have hu5 : Rw w5 0 w.heap.size 31 [.string S, .string U, .string P, .string H, .int .i64 pt, .string T, .bool hq, .string Q, .bool hf, .string F] := by rw [hw5]; exact Rw.more HU4.out _
            have ho5 : Rw w5 0 (w.heap.size + 1) 42 [.string S2, .string H2, .int .i64 p2] := by rw [hw5]; exact Rw.more HO4.out _
            rw [← hw5] at HSL
            go_wp2_with fail
            rw [← hw5]
            clear hw5 k0 k1 k2 k3 k4 k5 k6 k7 k8 k9 o0 o1 o2
            have k0 := Rw.cell hu5 (j := 0) rfl
            have k1 := Rw.cell hu5 (j := 1) rfl
            have k2 := Rw.cell hu5 (j := 2) rfl
            have k3 := Rw.cell hu5 (j := 3) rfl
            have k4 := Rw.cell hu5 (j := 4) rfl
            have k5 := Rw.cell hu5 (j := 5) rfl
            have k6 := Rw.cell hu5 (j := 6) rfl
            have k7 := Rw.cell hu5 (j := 7) rfl
            have k8 := Rw.cell hu5 (j := 8) rfl
            have k9 := Rw.cell hu5 (j := 9) rfl
            have o0 := Rw.cell ho5 (j := 0) rfl
            have o1 := Rw.cell ho5 (j := 1) rfl
            have o2 := Rw.cell ho5 (j := 2) rfl
            clear hu5 ho5
            refine (HA.out _ _ HSL.out).mono ?_
            rintro e w6 ⟨rfl, rfl⟩
            go_wp2_with fail
            go_ret
            exact ⟨by rw [HR.out] <;> rfl, HB5.out⟩
          case pos =>
            have q1 : (S2.toList == [104, 116, 116, 112]) = true := lit_yes h1
            rw [decide_eq_true h1, Bool.true_and] at hR
            have HR : Hid ((S.toList == [119, 115]) = R) := Lib.hid (by rw [hR, ByteArray.toList_eq, Bool.eq_iff_iff, beq_iff_eq, decide_eq_true_eq]; rfl)
            clear hR h1
            go_enter Tryz.func64, Tryz.ntmps64
            go_wp2_with fail
            rw [← hw2]
            clear hw2
            refine (HNO.out _).mono ?_
            rintro e w3 ⟨rfl, hb⟩
            have HB3 := Lib.hid (below_then HB2.out hb)
            have hu3 := Rw.below HU2.out hb
            have ho3 := Rw.below HO2.out hb
            have HU3 := Lib.hid hu3
            have HO3 := Lib.hid ho3
            clear k0 k1 k2 k3 k4 k5 k6 k7 k8 k9 o0 o1 o2 hb
            have k0 := Rw.cell hu3 (j := 0) rfl
            have k1 := Rw.cell hu3 (j := 1) rfl
            have k2 := Rw.cell hu3 (j := 2) rfl
            have k3 := Rw.cell hu3 (j := 3) rfl
            have k4 := Rw.cell hu3 (j := 4) rfl
            have k5 := Rw.cell hu3 (j := 5) rfl
            have k6 := Rw.cell hu3 (j := 6) rfl
            have k7 := Rw.cell hu3 (j := 7) rfl
            have k8 := Rw.cell hu3 (j := 8) rfl
            have k9 := Rw.cell hu3 (j := 9) rfl
            have o0 := Rw.cell ho3 (j := 0) rfl
            have o1 := Rw.cell ho3 (j := 1) rfl
            have o2 := Rw.cell ho3 (j := 2) rfl
            clear hu3 ho3
            go_wp2_with fail
            refine (HSP.out _).mono ?_
            rintro e w4 ⟨rfl, hb⟩
            have HB4 := Lib.hid (below_then HB3.out hb)
            have hu4 := Rw.below HU3.out hb
            have ho4 := Rw.below HO3.out hb
            clear k0 k1 k2 k3 k4 k5 k6 k7 k8 k9 o0 o1 o2
            have k0 := Rw.cell hu4 (j := 0) rfl
            have k1 := Rw.cell hu4 (j := 1) rfl
            have k2 := Rw.cell hu4 (j := 2) rfl
            have k3 := Rw.cell hu4 (j := 3) rfl
            have k4 := Rw.cell hu4 (j := 4) rfl
            have k5 := Rw.cell hu4 (j := 5) rfl
            have k6 := Rw.cell hu4 (j := 6) rfl
            have k7 := Rw.cell hu4 (j := 7) rfl
            have k8 := Rw.cell hu4 (j := 8) rfl
            have k9 := Rw.cell hu4 (j := 9) rfl
            have o0 := Rw.cell ho4 (j := 0) rfl
            have o1 := Rw.cell ho4 (j := 1) rfl
            have o2 := Rw.cell ho4 (j := 2) rfl
            have HU4 := Lib.hid hu4
            have HO4 := Lib.hid ho4
            clear hb hu4 ho4
            have HSL : Hid (SliceAt (w4.alloc (.cells #[.string ⟨#[104, 116, 116, 112, 115]⟩, .string ⟨#[119, 115, 115]⟩] 9)) (.slice (some ⟨w4.heap.size, 0, none⟩) 2 2) ([⟨#[104, 116, 116, 112, 115]⟩, ⟨#[119, 115, 115]⟩].map strV)) := Lib.hid (SliceAt.lit w4 _ _ _ _ rfl)
            obtain ⟨w5, hw5⟩ : ∃ w5, w5 = w4.alloc (.cells #[.string ⟨#[104, 116, 116, 112, 115]⟩, .string ⟨#[119, 115, 115]⟩] 9) := ⟨_, rfl⟩
            have HB5 : Hid (Below w.heap.size w w5) := Lib.hid (by rw [hw5]; exact below_more HB4.out _)
            have hu5 : Rw w5 0 w.heap.size 31 [.string S, .string U, .string P, .string H, .int .i64 pt, .string T, .bool hq, .string Q, .bool hf, .string F] := by rw [hw5]; exact Rw.more HU4.out _
            have ho5 : Rw w5 0 (w.heap.size + 1) 42 [.string S2, .string H2, .int .i64 p2] := by rw [hw5]; exact Rw.more HO4.out _
            rw [← hw5] at HSL
            go_wp2_with fail
            rw [← hw5]
            clear hw5 k0 k1 k2 k3 k4 k5 k6 k7 k8 k9 o0 o1 o2
            have k0 := Rw.cell hu5 (j := 0) rfl
            have k1 := Rw.cell hu5 (j := 1) rfl
            have k2 := Rw.cell hu5 (j := 2) rfl
            have k3 := Rw.cell hu5 (j := 3) rfl
            have k4 := Rw.cell hu5 (j := 4) rfl
            have k5 := Rw.cell hu5 (j := 5) rfl
            have k6 := Rw.cell hu5 (j := 6) rfl
            have k7 := Rw.cell hu5 (j := 7) rfl
            have k8 := Rw.cell hu5 (j := 8) rfl
            have k9 := Rw.cell hu5 (j := 9) rfl
            have o0 := Rw.cell ho5 (j := 0) rfl
            have o1 := Rw.cell ho5 (j := 1) rfl
            have o2 := Rw.cell ho5 (j := 2) rfl
            clear hu5 ho5
            refine (HA.out _ _ HSL.out).mono ?_
            rintro e w6 ⟨rfl, rfl⟩
            go_wp2_with fail
            go_ret
            exact ⟨ret_bool HR.out, HB5.out⟩

set_option maxHeartbeats 8000000 in
theorem sfits_any (k : Int) (e1 e2 e3 e4 : ByteArray) (S U P H T Q F : ByteArray) (pt : Int) (hq hf : Bool) (S2 H2 : ByteArray) (p2 : Int) (w : World) :
    Calls Tryz.prog 65 #[.agg #[.int .i64 k, .string e1, .string e2, .string e3, .string e4], .agg #[.string S, .string U, .string P, .string H, .int .i64 pt, .string T, .bool hq, .string Q, .bool hf, .string F], .agg #[.string S2, .string H2, .int .i64 p2]] w fun e w' => e = .returned (.bool (schM4 ⟨k, e1.data.toList, e2.data.toList, e3.data.toList, e4.data.toList⟩ ⟨S.data.toList, H.data.toList, pU S.data.toList pt, T.data.toList⟩ ⟨S2.data.toList, H2.data.toList, p2⟩)) ∧ Below w.heap.size w w' := by
  obtain ⟨R, hR⟩ : ∃ R, R = schM4 ⟨k, e1.data.toList, e2.data.toList, e3.data.toList, e4.data.toList⟩ ⟨S.data.toList, H.data.toList, pU S.data.toList pt, T.data.toList⟩ ⟨S2.data.toList, H2.data.toList, p2⟩ := ⟨_, rfl⟩
  rw [← hR]
  unfold schM4 at hR
  dsimp only at hR
  have HSM1 := Lib.hid (fun W => sma_any e1 S W)
  have HSM2 := Lib.hid (fun W => sma_any S2 S W)
  have HNO := Lib.hid (fun W => snone_any S2 H2 p2 W)
  obtain ⟨n, hn⟩ : ∃ n, n = decide (noneO ⟨S2.data.toList, H2.data.toList, p2⟩) := ⟨_, rfl⟩
  rw [← hn] at HNO hR
  obtain ⟨m1, hm1⟩ : ∃ m1, m1 = smaB e1.data.toList S.data.toList := ⟨_, rfl⟩
  rw [← hm1] at HSM1 hR
  obtain ⟨m2, hm2⟩ : ∃ m2, m2 = smaB S2.data.toList S.data.toList := ⟨_, rfl⟩
  rw [← hm2] at HSM2 hR
  clear hn hm1 hm2
  obtain ⟨r0, r1, r2, r3⟩ := three_rows w [.int .i64 k, .string e1, .string e2, .string e3, .string e4] [.string S, .string U, .string P, .string H, .int .i64 pt, .string T, .bool hq, .string Q, .bool hf, .string F] [.string S2, .string H2, .int .i64 p2] 24 31 42
  obtain ⟨w2, hw2⟩ : ∃ w2, w2 = ((w.alloc (.cells #[.int .i64 k, .string e1, .string e2, .string e3, .string e4] 24)).alloc (.cells #[.string S, .string U, .string P, .string H, .int .i64 pt, .string T, .bool hq, .string Q, .bool hf, .string F] 31)).alloc (.cells #[.string S2, .string H2, .int .i64 p2] 42) := ⟨_, rfl⟩
  have HU2 : Hid (Rw w2 0 (w.heap.size + 1) 31 [.string S, .string U, .string P, .string H, .int .i64 pt, .string T, .bool hq, .string Q, .bool hf, .string F]) := Lib.hid (by rw [hw2]; exact r1)
  have HO2 : Hid (Rw w2 0 (w.heap.size + 2) 42 [.string S2, .string H2, .int .i64 p2]) := Lib.hid (by rw [hw2]; exact r2)
  have HB2 : Hid (Below w.heap.size w w2) := Lib.hid (by rw [hw2]; exact r3)
  have d0 := Rw.cell r0 (j := 0) rfl
  have d1 := Rw.cell r0 (j := 1) rfl
  have d2 := Rw.cell r0 (j := 2) rfl
  have d3 := Rw.cell r0 (j := 3) rfl
  have d4 := Rw.cell r0 (j := 4) rfl
  have k0 := Rw.cell r1 (j := 0) rfl
  have k1 := Rw.cell r1 (j := 1) rfl
  have k2 := Rw.cell r1 (j := 2) rfl
  have k3 := Rw.cell r1 (j := 3) rfl
  have k4 := Rw.cell r1 (j := 4) rfl
  have k5 := Rw.cell r1 (j := 5) rfl
  have k6 := Rw.cell r1 (j := 6) rfl
  have k7 := Rw.cell r1 (j := 7) rfl
  have k8 := Rw.cell r1 (j := 8) rfl
  have k9 := Rw.cell r1 (j := 9) rfl
  have o0 := Rw.cell r2 (j := 0) rfl
  have o1 := Rw.cell r2 (j := 1) rfl
  have o2 := Rw.cell r2 (j := 2) rfl
  clear r0 r1 r2 r3
  by_cases h0 : e1.size = 0
  case neg =>
    have y := emptyNo h0
    have HR : Hid (R = m1) := Lib.hid (by rw [hR, if_neg (ne_of_size h0)])
    clear h0 hR
    go_enter Tryz.func65, Tryz.ntmps65
    go_wp2_with fail
    rw [← hw2]
    clear hw2
    refine (HSM1.out _).mono ?_
    rintro e w3 ⟨rfl, hb⟩
    have HB3 := Lib.hid (below_then HB2.out hb)
    clear hb
    go_wp2_with fail
    go_ret
    exact ⟨by rw [HR.out] <;> rfl, HB3.out⟩
  case pos =>
    have y := emptyYes h0
    rw [if_pos (List.eq_nil_of_length_eq_zero (by rw [size_data]; exact h0))] at hR
    clear h0
    cases n
    case true =>
      have HR : Hid (R = true) := Lib.hid hR
      clear hR
      go_enter Tryz.func65, Tryz.ntmps65
      go_wp2_with fail
      rw [← hw2]
      clear hw2
      refine (HNO.out _).mono ?_
      rintro e w3 ⟨rfl, hb⟩
      have HB3 := Lib.hid (below_then HB2.out hb)
      have hu3 := Rw.below HU2.out hb
      have ho3 := Rw.below HO2.out hb
      have HU3 := Lib.hid hu3
      have HO3 := Lib.hid ho3
      clear k0 k1 k2 k3 k4 k5 k6 k7 k8 k9 o0 o1 o2 hb
      have k0 := Rw.cell hu3 (j := 0) rfl
      have k1 := Rw.cell hu3 (j := 1) rfl
      have k2 := Rw.cell hu3 (j := 2) rfl
      have k3 := Rw.cell hu3 (j := 3) rfl
      have k4 := Rw.cell hu3 (j := 4) rfl
      have k5 := Rw.cell hu3 (j := 5) rfl
      have k6 := Rw.cell hu3 (j := 6) rfl
      have k7 := Rw.cell hu3 (j := 7) rfl
      have k8 := Rw.cell hu3 (j := 8) rfl
      have k9 := Rw.cell hu3 (j := 9) rfl
      have o0 := Rw.cell ho3 (j := 0) rfl
      have o1 := Rw.cell ho3 (j := 1) rfl
      have o2 := Rw.cell ho3 (j := 2) rfl
      clear hu3 ho3
      go_wp2_with fail
      go_ret
      exact ⟨by rw [HR.out] <;> rfl, HB3.out⟩
    case false =>
      have HR : Hid (R = m2) := Lib.hid hR
      clear hR
      go_enter Tryz.func65, Tryz.ntmps65
      go_wp2_with fail
      rw [← hw2]
      clear hw2
      refine (HNO.out _).mono ?_
      rintro e w3 ⟨rfl, hb⟩
      have HB3 := Lib.hid (below_then HB2.out hb)
      have hu3 := Rw.below HU2.out hb
      have ho3 := Rw.below HO2.out hb
      have HU3 := Lib.hid hu3
      have HO3 := Lib.hid ho3
      clear k0 k1 k2 k3 k4 k5 k6 k7 k8 k9 o0 o1 o2 hb
      have k0 := Rw.cell hu3 (j := 0) rfl
      have k1 := Rw.cell hu3 (j := 1) rfl
      have k2 := Rw.cell hu3 (j := 2) rfl
      have k3 := Rw.cell hu3 (j := 3) rfl
      have k4 := Rw.cell hu3 (j := 4) rfl
      have k5 := Rw.cell hu3 (j := 5) rfl
      have k6 := Rw.cell hu3 (j := 6) rfl
      have k7 := Rw.cell hu3 (j := 7) rfl
      have k8 := Rw.cell hu3 (j := 8) rfl
      have k9 := Rw.cell hu3 (j := 9) rfl
      have o0 := Rw.cell ho3 (j := 0) rfl
      have o1 := Rw.cell ho3 (j := 1) rfl
      have o2 := Rw.cell ho3 (j := 2) rfl
      clear hu3 ho3
      go_wp2_with fail
      refine (HSM2.out _).mono ?_
      rintro e w4 ⟨rfl, hb⟩
      have HB4 := Lib.hid (below_then HB3.out hb)
      clear hb
      go_wp2_with fail
      go_ret
      exact ⟨by rw [HR.out] <;> rfl, HB4.out⟩

end Go.Proofs.YtnecjofgjbfheaaGreatDoor
