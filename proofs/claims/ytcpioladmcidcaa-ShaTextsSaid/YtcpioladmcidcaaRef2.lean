/- Contracts: the reference's Sum. -/
import Derived.Deep.RegionHeld3
import Derived.BigRegion
import Derived.Test.YtcpioladmcidcaaProg
import Derived.Test.YtcpioladmcidcaaKit
import Derived.Test.YtcpioladmcidcaaInfo
import Derived.Test.YtcpioladmcidcaaRow
import Derived.Test.YtcpioladmcidcaaU32
import Derived.Test.YtcpioladmcidcaaSha
import Derived.Test.YtcpioladmcidcaaSha0
import Derived.Test.YtcpioladmcidcaaSha2
import Derived.Test.YtcpioladmcidcaaLit
import Derived.Test.YtcpioladmcidcaaCod1
import Derived.Test.YtcpioladmcidcaaCod2
import Derived.Test.YtcpioladmcidcaaCod3
import Derived.Test.YtcpioladmcidcaaSha4
import Derived.Test.YtcpioladmcidcaaDig0
import Derived.Test.YtcpioladmcidcaaCod4
import Derived.Test.YtcpioladmcidcaaCod5
import Derived.Test.YtcpioladmcidcaaCod6
import Derived.Test.YtcpioladmcidcaaCod7
import Derived.Test.YtcpioladmcidcaaCod8
import Derived.Test.YtcpioladmcidcaaCod9
import Derived.Test.YtcpioladmcidcaaRef1
namespace Go.Proofs.Ytcpioladmcidcaa
open Go.RowKit Go.Proofs

theorem Rw.keepB {w w' : World} {base g B : Nat} {e : TypeId} {xs : List Value} (h : Rw w base g e xs) (hb : Below B w w') (hg : g < B) : Rw w' base g e xs :=
  ⟨h.1, by rw [hb.block g hg]; exact h.2⟩

theorem own_save {w w' : World} {base B g : Nat} {e : TypeId} {size n : Nat} {v : Value} {xs : List Value} (h : w.ownsRow base e size v n xs) (hs : Save B g w w') (hB : w.heap.size ≤ B) (hg : g < base) : w'.ownsRow base e size v n xs := by
  refine ⟨h.1, ?_⟩
  rcases h.2 with h | ⟨gm, cap, cur, hv, hgm, hh, r⟩
  · exact .inl h
  · refine .inr ⟨gm, cap, cur, hv, hgm, ?_, r⟩
    rw [hs.block gm ?_ (by omega)]
    · exact hh
    · rcases Nat.lt_or_ge gm w.heap.size with h | h
      · omega
      · rw [Array.getElem?_eq_none h] at hh; cases hh

theorem padZ_spec (N j : Nat) (h : j ≤ padZ N) : ((N + 1 + j) % 64 = 56 ↔ j = padZ N) := by
  unfold padZ at h ⊢
  omega

theorem bytes_at (s : H8) {q r : Nat} (hq : q < 8) (hr : r < 4) : s.bytes[4 * q + r]? = some ((bytes4 (s.l.getD q 0)).getD r 0) := by
  refine lt8 (P := fun q => ∀ r, r < 4 → s.bytes[4 * q + r]? = some ((bytes4 (s.l.getD q 0)).getD r 0)) ?_ ?_ ?_ ?_ ?_ ?_ ?_ ?_ hq r hr
  all_goals
    intro r hr
    match r, hr with
    | 0, _ => rfl
    | 1, _ => rfl
    | 2, _ => rfl
    | 3, _ => rfl

theorem bytes4_at (x : UInt32) {r : Nat} (hr : r < 4) : Value.int .u8 (iw x / 2 ^ (24 - 8 * r) % 256) = byteV ((bytes4 x).getD r 0) := by
  match r, hr with
  | 0, _ => show Value.int .u8 (iw x / 2 ^ 24 % 256) = _; rw [iw_shr x 24 (by decide), iw_conv]; rfl
  | 1, _ => show Value.int .u8 (iw x / 2 ^ 16 % 256) = _; rw [iw_shr x 16 (by decide), iw_conv]; rfl
  | 2, _ => show Value.int .u8 (iw x / 2 ^ 8 % 256) = _; rw [iw_shr x 8 (by decide), iw_conv]; rfl
  | 3, _ => show Value.int .u8 (iw x / 2 ^ 0 % 256) = _; rw [Int.pow_zero, Int.ediv_one, iw_conv]; rfl

theorem outUp_set (s : H8) {i : Nat} {y : UInt8} (h : s.bytes[i]? = some y) (hi : i < 32) : ((s.bytes.take i ++ List.replicate (32 - i) 0).map byteV).set i (byteV y) = (s.bytes.take (i + 1) ++ List.replicate (32 - (i + 1)) 0).map byteV := by
  have hl : s.bytes.length = 32 := rfl
  rw [← List.map_set, show 32 - i = (32 - (i + 1)) + 1 from by omega, List.replicate_succ, List.set_append_right _ _ (by rw [List.length_take]; omega), List.length_take, show i - min i s.bytes.length = 0 from by omega, take_succ_of h]
  simp

/-- The first k bytes of the length in bits. -/
def lenB (n k : Nat) : List UInt8 := (List.range k).map (fun i => (n * 8 / 2 ^ (8 * (7 - i))).toUInt8)

theorem lenB_succ (n k : Nat) : lenB n (k + 1) = lenB n k ++ [(n * 8 / 2 ^ (8 * (7 - k))).toUInt8] := by
  unfold lenB
  rw [List.range_succ, List.map_append]
  rfl

theorem pad_split (l : List UInt8) : pad l = (l ++ [128] ++ List.replicate (padZ l.length) (0 : UInt8)) ++ lenB l.length 8 := by
  unfold pad lenB
  simp

set_option maxRecDepth 100000 in
set_option maxHeartbeats 2000000 in
theorem refsum_any (v : Value) (l : List UInt8) (w : World) (hv : ByteSl w w.heap.size v l) (hl : l.length < 4294967296) :
    Calls Try.prog 11 #[v] w fun e w' => e = .returned (shaV l) ∧ Below w.heap.size w w' := by
  obtain ⟨i0, hi, hz0, hz1, hz2⟩ := info_parts Try.infoByte
  obtain ⟨Z, hz, hZ⟩ : ∃ Z, (∀ w, (zeroValue 26).run Try.prog w = .ok (.agg Z) w) ∧ Z = Array.replicate 32 (.int .u8 0) := ⟨_, zero_cells Try.infoB32, rfl⟩
  obtain ⟨T0, ht0, hT0⟩ : ∃ Z, (∀ w, (zeroValue 55).run Try.prog w = .ok (.agg Z) w) ∧ Z = Array.replicate 72 (.int .u32 0) := ⟨_, zero_cells Try.infoTables, rfl⟩
  obtain ⟨E0, he0, hE0⟩ : ∃ Z, (∀ w, (zeroValue 41).run Try.prog w = .ok (.agg Z) w) ∧ Z = Array.replicate 8 (.int .u32 0) := ⟨_, zero_cells Try.infoW8, rfl⟩
  obtain ⟨a, c, rfl⟩ : ∃ a c, v = .slice a l.length c := by
    rcases hv with ⟨rfl, rfl⟩ | ⟨ad, c, rfl, _, _⟩
    · exact ⟨none, 0, rfl⟩
    · exact ⟨_, _, rfl⟩
  obtain ⟨N, hN⟩ : ∃ N, N = l.length := ⟨_, rfl⟩
  rw [← hN] at hv hl ⊢
  obtain ⟨T, hT⟩ : ∃ T : List Value, T = (h0S.l ++ kL).map wV := ⟨_, rfl⟩
  have htab : (tabL.map (Value.int .u32)).toArray = T.toArray := by rw [tab_lit, hT, List.map_map]; rfl
  have hTl : T.length = 72 := by rw [hT]; rfl
  have hT1 : ∀ v ∈ T, v.oneCell' = true := by rw [hT]; intro v hv; obtain ⟨x, _, rfl⟩ := List.mem_map.1 hv; rfl
  obtain ⟨E, hE⟩ : ∃ E : List Value, E = h0S.l.map wV := ⟨_, rfl⟩
  have hEl : E.length = 8 := by rw [hE]; rfl
  have hE1 : ∀ v ∈ E, v.oneCell' = true := by rw [hE]; intro v hv; obtain ⟨x, _, rfl⟩ := List.mem_map.1 hv; rfl
  have HTE : Hid (∀ j v, E[j]? = some v → T[j]? = some v) := Lib.hid (fun j v hj => by
    rw [hT, List.map_append, List.getElem?_append_left (by rw [← hE]; exact (List.getElem?_eq_some_iff.1 hj).1), ← hE]
    exact hj)
  have HTK : Hid (∀ j x, kL[j]? = some x → T[8 + j]? = some (wV x)) := Lib.hid (fun j x hj => by
    rw [hT, List.map_append, List.getElem?_append_right (by simp [H8.l])]
    have : 8 + j - (h0S.l.map wV).length = j := by simp [H8.l]
    rw [this, List.getElem?_map, hj]
    rfl)
  have HIT : Hid ((Try.prog.info? 55).map (·.size) = some T.length) := Lib.hid (by rw [hTl]; exact (zero_of_info Try.infoTables).2)
  have HIE : Hid ((Try.prog.info? 41).map (·.size) = some E.length) := Lib.hid (by rw [hEl]; exact Try.infoW8n)
  have HT0 : Hid (T0.toList.length = T.length) := Lib.hid (by rw [hT0, hTl]; simp)
  have HE0 : Hid (E0.toList.length = E.length) := Lib.hid (by rw [hE0, hEl]; simp)
  have HT1 := Lib.hid hT1
  have HE1 := Lib.hid hE1
  have HE := Lib.hid hE
  have HTAB := Lib.hid htab
  have HZ := Lib.hid hZ
  have HV := Lib.hid hv
  have HN := Lib.hid hN
  clear hZ hT0 hE0 hv hN hT htab hTl hT1 hE hEl hE1
  go_enter Try.func11, Try.ntmps11
  go_wp2_with (first | (refine wpList_alloc_z rfl 26 rfl Z hz ?_) | fail)
  refine (tables_any _).mono ?_
  rintro e w1 ⟨rfl, hb1⟩
  rw [HTAB.out]
  have hr1 : Rw w1 w.heap.size w.heap.size 26 Z.toList := (Rw.alloc w 26 Z (Nat.le_refl _)).below hb1
  have hw1 : Below w.heap.size w w1 := (below_more (Below.refl w.heap.size w) _).trans (hb1.mono (by simp))
  have ht1 := Rw.alloc w1 55 T0 (base := w.heap.size) hw1.size
  have HR1 := Lib.hid hr1
  have HW1 := Lib.hid hw1
  have HTT := Lib.hid ht1
  obtain ⟨gt, hgt⟩ : ∃ gt, gt = w1.heap.size := ⟨_, rfl⟩
  obtain ⟨w2, hw2⟩ : ∃ w2, w2 = (w1.alloc (.cells T0 55)).setCells w1.heap.size 0 T := ⟨_, rfl⟩
  have hT2 : Rw w2 w.heap.size gt 55 T := by rw [hw2, hgt]; exact ht1.storedAll T HT0.out
  have hra : w2.rangeAt gt 0 E := hT2.range 0 E (fun j v hj => by rw [Nat.zero_add]; exact HTE.out j v hj)
  have hR2 : Rw w2 w.heap.size w.heap.size 26 Z.toList := by rw [hw2]; exact Rw.otherAll (hr1.more _) (by have := hr1.size; omega) _ _
  have hW2 : Below w.heap.size w w2 := by rw [hw2]; exact below_setCells hw1.size _ _ _ (below_more hw1 _)
  have he2 := Rw.alloc w2 41 E0 (base := w.heap.size) hW2.size
  obtain ⟨gh, hgh⟩ : ∃ gh, gh = w2.heap.size := ⟨_, rfl⟩
  obtain ⟨w3, hw3⟩ : ∃ w3, w3 = (w2.alloc (.cells E0 41)).setCells w2.heap.size 0 E := ⟨_, rfl⟩
  have hE3 : Rw w3 w.heap.size gh 41 E := by rw [hw3, hgh]; exact he2.storedAll E HE0.out
  have hT3 : Rw w3 w.heap.size gt 55 T := by rw [hw3]; exact Rw.otherAll (hT2.more _) (by have := hT2.size; omega) _ _
  have hR3 : Rw w3 w.heap.size w.heap.size 26 Z.toList := by rw [hw3]; exact Rw.otherAll (hR2.more _) (by have := hR2.size; omega) _ _
  have hW3 : Below w.heap.size w w3 := by rw [hw3]; exact below_setCells hW2.size _ _ _ (below_more hW2 _)
  obtain ⟨B2, hB2⟩ : ∃ B2, B2 = w3.heap.size := ⟨_, rfl⟩
  have HT3 := Lib.hid hT3
  have HE3 := Lib.hid hE3
  have HR3 := Lib.hid hR3
  have HW3 := Lib.hid hW3
  have HV3 := Lib.hid (HV.out.keep hW3 (Nat.le_refl _))
  have HW3E := Lib.hid hw3
  have HGH := Lib.hid hgh
  have HB2 := Lib.hid hB2
  have HGTH : Hid (gt < gh) := Lib.hid (by rw [hgh]; exact hT2.size)
  have HRA := Lib.hid hra
  have HEE := Lib.hid he2
  have HWE := Lib.hid hw2
  have HGT := Lib.hid hgt
  have hNN : N < 1099511627776 := by omega
  clear hr1 hw1 ht1 hgt hw2 hT2 hra hR2 hW2 he2 hb1 hgh hw3 hE3 hT3 hR3 hW3 hB2 HR1 HW1
  go_wp2_with (first | (refine wpList_alloc_z rfl 55 rfl T0 ht0 ?_) | (refine wpList_store_mid rfl 55 _ _ rfl w1.heap.size 0 T.toArray rfl rfl (HTT.out.there 0 _ (by rw [HT0.out]; simp)) (by rw [HIT.out]; simp) (all_oneCell_toArray HT1.out) ?_; rw [← HWE.out]; simp only [← HGT.out]) | (refine wpList_load_mid rfl 41 _ rfl gt 0 rfl E _ HRA.out Try.underlying41 rfl HIE.out ?_) | (refine wpList_alloc_z rfl 41 rfl E0 he0 ?_) | (refine wpList_store_mid rfl 41 _ _ rfl w2.heap.size 0 E.toArray rfl rfl (HEE.out.there 0 _ (by rw [HE0.out]; simp)) (by rw [HIE.out]; simp) (all_oneCell_toArray HE1.out) ?_; rw [← HW3E.out]; simp only [← HGH.out]) | (at_builtin; refine wpList_append_sl rfl _ _ 23 rfl B2 5 i0 (.int .u8 0) Try.underlying23 hi hz0 hz1 hz2 rfl (.slice none 0 0) 0 [] rfl ⟨rfl, .inl ⟨rfl, rfl⟩⟩ (.slice a N c) l rfl w.heap.size HV3.out (by rw [← HN.out]; omega) (by rw [HB2.out]; exact Nat.le_refl _) ?_; intro v4 w4 hown4 hb4; rw [Nat.zero_add, List.nil_append, ← HN.out] at hown4) | (at_builtin; refine wpList_append1 rfl _ _ 23 rfl B2 5 rfl i0 (.int .u8 0) 1 Try.underlying23 hi hz0 hz1 hz2 rfl v4 N _ rfl hown4 rfl rfl (by omega) (by decide) (Nat.le_trans (by rw [HB2.out]; exact Nat.le_refl _) hb4.size) ?_; intro v5 w5 hown5 hb5))
  have HO5 : Hid (w5.ownsRow B2 5 1 v5 (N + 1) ((l ++ [128] ++ List.replicate 0 0).map byteV)) := Lib.hid (by simpa [byteV] using hown5)
  have HB5 := Lib.hid (hb4.trans hb5)
  clear hown4 hown5 hb4 hb5
  obtain ⟨a5, c5, rfl⟩ := own_len HO5.out
  clear HEE HWE HGT HRA HTT HV HV3 HT0 HE0 ht0 he0
  go_loopw [5] (fun v wr => ∃ (j M : Nat) (a5 : Option Addr) (c5 : Nat), v = .slice a5 M c5 ∧ j ≤ padZ N ∧ Hid (M = N + 1 + j) ∧ Hid (wr.ownsRow B2 5 1 (.slice a5 M c5) M ((l ++ [128] ++ List.replicate j 0).map byteV)) ∧ Hid (Below B2 w3 wr)) (fun v _ => padZ N + N + 1 - lenOf v)
  case atStart => exact ⟨0, N + 1, a5, c5, rfl, Nat.zero_le _, Lib.hid rfl, HO5, HB5⟩
  case round =>
    clear HO5 HB5
    obtain ⟨j, M, a6, c6, rfl, hj, HM, HO, HB⟩ := hrel
    obtain ⟨w6, hw6⟩ : ∃ w6 : World, w6 = wr := ⟨_, rfl⟩
    subst hw6
    have hpz := padZ_lt N
    have hspec := padZ_spec N j hj
    rw [← HM.out] at hspec
    have HSPEC := Lib.hid hspec
    clear hspec
    by_cases hlt : j = padZ N
    · have hne : ((M : Int) % 64 != 56) = false := by
        have h := HSPEC.out.2 hlt
        rw [bne_eq_false_iff_eq]
        omega
      have hM := HM.out
      have HML : Hid (M = N + 1 + padZ N) := Lib.hid (by rw [hM, hlt])
      have HO7 : Hid (w6.ownsRow B2 5 1 (.slice a6 M c6) M ((l ++ [128] ++ List.replicate (padZ N) (0 : UInt8) ++ lenB N 0).map byteV)) := Lib.hid (by rw [← hlt]; simpa [lenB] using HO.out)
      have hn8 : (N : Int) * 8 < 34359738368 := by omega
      clear hlt hj HO HM hM HSPEC
      go_wp2
      go_loopw [5, 7] (fun v i wr => ∃ (k M : Nat) (ii : Int) (a6 : Option Addr) (c6 : Nat), v = .slice a6 M c6 ∧ i = .int .i64 ii ∧ k ≤ 8 ∧ ii = 7 - (k : Int) ∧ Hid (M = N + 1 + padZ N + k) ∧ Hid (wr.ownsRow B2 5 1 (.slice a6 M c6) M ((l ++ [128] ++ List.replicate (padZ N) (0 : UInt8) ++ lenB N k).map byteV)) ∧ Hid (Below B2 w3 wr)) (fun _ i _ => (intOf i + 1).toNat)
      case atStart => exact ⟨0, M, 7, a6, c6, rfl, rfl, by omega, by omega, HML, HO7, HB⟩
      case round =>
        clear HO7 HB HML hne
        obtain ⟨k, M, ii, a6, c6, rfl, rfl, hk, hii, HM, HO, HB⟩ := hrel
        obtain ⟨w7, hw7⟩ : ∃ w7 : World, w7 = wr := ⟨_, rfl⟩
        subst hw7
        by_cases hlt : k < 8
        · obtain ⟨j, hj⟩ : ∃ j, j = 7 - k := ⟨_, rfl⟩
          obtain rfl : ii = (j : Int) := by omega
          have hj8 : (j : Int) < 8 := by omega
          have hM := HM.out
          have hMb : M < 1099511627776 := by have := padZ_lt N; omega
          have HVB : Hid (Value.int .u8 ((N : Int) * 8 / 2 ^ (8 * j) % 256) = byteV (N * 8 / 2 ^ (8 * (7 - k))).toUInt8) := Lib.hid (by
            rw [← hj]
            unfold byteV
            congr 1)
          have HJ := Lib.hid hj
          have HKL := Lib.hid hlt
          clear hii hj hM hlt hk hpz
          go_wp2_with (at_builtin; refine wpList_append1 rfl _ _ 23 rfl B2 5 rfl i0 (.int .u8 0) 1 Try.underlying23 hi hz0 hz1 hz2 rfl (.slice a6 M c6) M _ rfl HO.out rfl rfl hMb (by decide) (Nat.le_trans (by rw [HB2.out]; exact Nat.le_refl _) HB.out.size) ?_; intro v8 w8 hown8 hb8; obtain ⟨a8, c8, rfl⟩ := own_len hown8)
          go_roundw
          case rel =>
            have hM := HM.out
            have hk := HKL.out
            have hj := HJ.out
            refine ⟨k + 1, M + 1, _, a8, c8, rfl, rfl, by omega, by omega, Lib.hid (by omega), Lib.hid ?_, Lib.hid (HB.out.trans hb8)⟩
            rw [lenB_succ, ← List.append_assoc, List.map_append]
            have h := hown8
            rw [HVB.out] at h
            exact h
          case measure => simp [intOf]
        · have h8 : k = 8 := by omega
          have hneg : ii < 0 := by omega
          have hM := HM.out
          obtain ⟨m, hm⟩ : ∃ m, m = pad l := ⟨_, rfl⟩
          have hml : m.length = M := by rw [hm, pad_tail, List.length_append, tailS_len, ← HN.out]; omega
          have hmod := pad_mod l
          rw [← hm, hml] at hmod
          obtain ⟨Q, hQ⟩ : ∃ Q, Q = M / 64 := ⟨_, rfl⟩
          have HMQ : Hid (M = 64 * Q) := Lib.hid (by omega)
          have hO8 : w7.ownsRow B2 5 1 (.slice a6 M c6) M (m.map byteV) := by
            have h := HO.out
            rw [h8] at h
            rw [hm, pad_split, ← HN.out]
            exact h
          obtain ⟨gm, cm, hsv, hgm⟩ := own_some hO8 (by omega)
          injection hsv with q1 q2 q3
          subst q1
          have hcap : M ≤ c6 := by
            rcases hO8.2 with ⟨h, _⟩ | ⟨_, _, _, h, _, _, hn, _⟩
            · cases h
            · injection h with _ _ h3; omega
          have HSHA : Hid (shaS kL h0S l = blocksS kL m h0S Q) := Lib.hid (by unfold shaS; rw [← hm, hml, hQ])
          have HML := Lib.hid hml
          have HO8 := Lib.hid hO8
          have HGM := Lib.hid hgm
          have HT7 : Hid (Rw w7 w.heap.size gt 55 T) := Lib.hid (HT3.out.keepB HB.out (by rw [HB2.out]; exact HT3.out.size))
          have HE7 : Hid (Rw w7 w.heap.size gh 41 ((blocksS kL m h0S 0).l.map wV)) := Lib.hid (by
            have h := HE3.out.keepB HB.out (by rw [HB2.out]; exact HE3.out.size)
            rw [HE.out] at h
            exact h)
          have HR7 : Hid (Rw w7 w.heap.size w.heap.size 26 Z.toList) := Lib.hid (HR3.out.keepB HB.out (by rw [HB2.out]; exact HR3.out.size))
          have HW7 : Hid (Below w.heap.size w w7) := Lib.hid (HW3.out.trans (HB.out.mono (by rw [HB2.out]; exact HW3.out.size)))
          have HGHB : Hid (gh < B2) := Lib.hid (by rw [HB2.out]; exact HE3.out.size)
          have hMlt : M < 1099511627776 := by have := padZ_lt N; omega
          have HMLT := Lib.hid hMlt
          have HCAP := Lib.hid hcap
          clear h8 hii hk hM hm hml hmod hQ hO8 q2 q3 hgm HO hlt HT3 HE3 HR3 HW3 hpz hMlt hcap hl hNN hn8
          go_wp2_with fail
          go_loopw [8] (fun i wr => ∃ k jj : Nat, i = .int .i64 (jj : Int) ∧ k ≤ Q ∧ Hid (jj = 64 * k) ∧ Hid (Rw wr w.heap.size gh 41 ((blocksS kL m h0S k).l.map wV)) ∧ Hid (Rw wr w.heap.size gt 55 T) ∧ Hid (Rw wr w.heap.size w.heap.size 26 Z.toList) ∧ Hid (wr.ownsRow B2 5 1 (.slice (some ⟨gm, 0, none⟩) M c6) M (m.map byteV)) ∧ Hid (Below w.heap.size w wr)) (fun i _ => M - (intOf i).toNat)
          case atStart => exact ⟨0, 0, rfl, Nat.zero_le _, Lib.hid rfl, HE7, HT7, HR7, HO8, HW7⟩
          case round =>
            clear HE7 HT7 HR7 HO8 HW7 HB
            obtain ⟨k, jj, rfl, hk, HJJ, HE7, HT7, HR7, HO8, HW7⟩ := hrel
            obtain ⟨w9, hw9⟩ : ∃ w9 : World, w9 = wr := ⟨_, rfl⟩
            subst hw9
            by_cases hlt : k < Q
            · have hjj := HJJ.out
              have hMQ := HMQ.out
              have hcap := HCAP.out
              have hmlt := HMLT.out
              have hml := HML.out
              have hsl : ∀ W, (Instr.slice 23 (.slice (some ⟨gm, 0, none⟩) M c6) (some (.int .i64 (jj : Int))) (some (.int .i64 ((jj : Int) + 64))) none).run Try.prog W = .ok (.slice (some ⟨gm, jj, none⟩) 64 (c6 - jj)) W := fun W => by
                rw [run_slice_lh W 23 (some ⟨gm, 0, none⟩) M c6 (by kernel_rfl) .i64 .i64 _ _ (by omega) (by omega) (by omega), run_size1 (by kernel_rfl)]
                have h1 : ¬ c6 = jj := by omega
                have h2 : ((jj : Int) + 64).toNat - jj = 64 := by omega
                simp [Result.andThen, sliced, Addr.add_mid, h1, h2]
              obtain ⟨blk, hblk⟩ : ∃ blk, blk = (m.drop (64 * k)).take 64 := ⟨_, rfl⟩
              have hbl : blk.length = 64 := by rw [hblk, List.length_take, List.length_drop]; omega
              have hsa : SliceAt w9 (.slice (some ⟨gm, jj, none⟩) 64 (c6 - jj)) (blk.map byteV) := by
                refine ⟨some ⟨gm, jj, none⟩, c6 - jj, by rw [List.length_map, hbl], .inr ⟨gm, jj, rfl, fun j x hj => ?_⟩⟩
                have hjl : j < 64 := by
                  have := (List.getElem?_eq_some_iff.1 hj).1
                  rw [List.length_map, hbl] at this
                  exact this
                rw [HO8.out.cellAt (jj + j) (by omega), List.getElem?_map]
                rw [hblk, List.getElem?_map, List.getElem?_take, if_pos hjl, List.getElem?_drop] at hj
                rw [hjj]
                exact hj
              have htk : ∀ j x, kL[j]? = some x → w9.cell? ⟨gt, 8 + j, none⟩ = some (wV x) := fun j x hj => HT7.out.cell (HTK.out j x hj)
              have hbk := block_any gt gh w.heap.size kL (blocksS kL m h0S k) blk _ w9 kL_len hbl htk HE7.out hsa
              rw [hblk] at hbk
              have HBK := Lib.hid hbk
              have hy : (jj : Int) + 64 < 1099511627776 := by omega
              have hlt2 : (jj : Int) < (M : Int) := by omega
              have HKL := Lib.hid hlt
              clear hjj hMQ hcap hmlt hml hblk hbl hsa htk hbk hlt hk
              go_wp2_with fail
              refine (HBK.out).mono ?_
              rintro e w10 ⟨rfl, hr10, hs10⟩
              have HR10 := Lib.hid hr10
              have HS10 := Lib.hid hs10
              clear hr10 hs10 HBK
              go_wp2_with fail
              go_roundw
              case rel =>
                have hk := HKL.out
                have hjj := HJJ.out
                have hgth := HGTH.out
                have hghb := HGHB.out
                have hgh := HE7.out.1
                have hgr := HR7.out.size
                refine ⟨k + 1, jj + 64, by go_num, by omega, Lib.hid (by omega), HR10, Lib.hid (HT7.out.save HS10.out HT7.out.size (by omega)), Lib.hid (HR7.out.save HS10.out hgr ?_), Lib.hid (own_save HO8.out HS10.out (Nat.le_refl _) hghb), Lib.hid (HS10.out.below HW7.out hgh HW7.out.size)⟩
                have := HT7.out.1
                omega
              case measure =>
                have hk := HKL.out
                have hjj := HJJ.out
                have hMQ := HMQ.out
                simp [intOf]
                omega
            · have hkQ : k = Q := by omega
              have hh := HE7.out
              rw [hkQ, ← HSHA.out] at hh
              obtain ⟨S, hS⟩ : ∃ S, S = shaS kL h0S l := ⟨_, rfl⟩
              rw [← hS] at hh
              have HH := Lib.hid hh
              have HS := Lib.hid hS
              have hjM : ¬ (jj < M) := by have := HJJ.out; have := HMQ.out; omega
              clear hkQ hh hS hlt hk HE7 HT7 HO8 HJJ
              go_wp2_with (refine wpList_alloc_z rfl 26 rfl Z hz ?_)
              obtain ⟨go, hgo⟩ : ∃ go, go = w9.heap.size := ⟨_, rfl⟩
              have hB10 : Below w.heap.size w (w9.alloc (.cells Z 26)) := HW7.out.alloc HW7.out.size _
              have hH10 := HH.out.more (.cells Z 26)
              have hR10 := HR7.out.more (.cells Z 26)
              have hO10 : Rw (w9.alloc (.cells Z 26)) w.heap.size go 26 ((S.bytes.take 0 ++ List.replicate (32 - 0) 0).map byteV) := by
                have h := Rw.alloc w9 26 Z (base := w.heap.size) HW7.out.size
                rw [hgo]
                rw [HZ.out] at h ⊢
                simpa [byteV] using h
              simp only [← hgo]
              generalize w9.alloc (.cells Z 26) = w10 at hB10 hH10 hR10 hO10 ⊢
              have HB10 := Lib.hid hB10
              have HH10 := Lib.hid hH10
              have HR10 := Lib.hid hR10
              have HO10 := Lib.hid hO10
              have HGO : Hid (gh < go ∧ w.heap.size < go) := Lib.hid (by rw [hgo]; exact ⟨HH.out.size, HR7.out.size⟩)
              clear hB10 hH10 hR10 hO10 hgo HW7 HH HR7 hz hjM
              go_loopw [10] (fun i wr => ∃ k : Nat, k ≤ 32 ∧ i = .int .i64 k ∧ Hid (Rw wr w.heap.size go 26 ((S.bytes.take k ++ List.replicate (32 - k) 0).map byteV)) ∧ Hid (Rw wr w.heap.size gh 41 (S.l.map wV)) ∧ Hid (Rw wr w.heap.size w.heap.size 26 Z.toList) ∧ Hid (Below w.heap.size w wr)) (fun i _ => 32 - (intOf i).toNat)
              case atStart => exact ⟨0, by omega, rfl, HO10, HH10, HR10, HB10⟩
              case round =>
                clear HO10 HH10 HR10 HB10
                obtain ⟨k, hk, rfl, HO, HH, HR, HB⟩ := hrel
                obtain ⟨w11, hw11⟩ : ∃ w11 : World, w11 = wr := ⟨_, rfl⟩
                subst hw11
                by_cases hlt : k < 32
                · obtain ⟨q, hq⟩ : ∃ q, q = k / 4 := ⟨_, rfl⟩
                  obtain ⟨r, hr⟩ : ∃ r, r = k % 4 := ⟨_, rfl⟩
                  have hq8 : q < 8 := by omega
                  have hr4 : r < 4 := by omega
                  have hkk : k = 4 * q + r := by omega
                  have hby := bytes_at S hq8 hr4
                  rw [← hkk] at hby
                  have HSET := Lib.hid (outUp_set S hby hlt)
                  have HVAL := Lib.hid (bytes4_at (S.l.getD q 0) hr4)
                  have hcx := HH.out.cell (l8_at S hq8)
                  have hco : w11.cell? ⟨go, k, none⟩ = some (.int .u8 0) := HO.out.cell (by
                    have hl : S.bytes.length = 32 := rfl
                    rw [List.getElem?_map, List.getElem?_append_right (by rw [List.length_take]; omega), List.getElem?_replicate, if_pos (by rw [List.length_take]; omega)]
                    rfl)
                  have hfo := HO.out.free k
                  obtain ⟨x, hx⟩ : ∃ x, x = S.l.getD q 0 := ⟨_, rfl⟩
                  rw [← hx] at HSET HVAL hcx
                  obtain ⟨sh, hsh⟩ : ∃ sh, sh = 24 - 8 * r := ⟨_, rfl⟩
                  rw [← hsh] at HVAL
                  have e1 : (k : Int) / 4 = (q : Int) := by omega
                  have e2 : (k : Int) % 4 = (r : Int) := by omega
                  have e3 : (24 : Int) - 8 * (r : Int) = (sh : Int) := by omega
                  have e4 : (r : Int) < 4 := by omega
                  have e5 : (q : Int) < 8 := by omega
                  have e6 : (sh : Int) < 32 := by omega
                  have e7 : (k : Int) < 32 := by omega
                  have HKL := Lib.hid hlt
                  clear hq hr hq8 hr4 hkk hby hx hsh hk hlt
                  go_wp2
                  go_roundw
                  case rel =>
                    have hgo := HGO.out
                    refine ⟨k + 1, by have := HKL.out; omega, by go_num, Lib.hid ?_, Lib.hid (HH.out.other (by omega) _ _), Lib.hid (HR.out.other (by omega) _ _), Lib.hid (HB.out.setCell (by show _ ≤ go; omega) _)⟩
                    rw [HVAL.out, ← HSET.out]
                    exact HO.out.stored _ _
                  case measure => have := HKL.out; simp [intOf]; omega
                · have h32 : k = 32 := by omega
                  have ho := HO.out
                  rw [h32, Nat.sub_self, List.replicate_zero, List.append_nil, List.take_of_length_le (show S.bytes.length ≤ 32 from Nat.le_refl _)] at ho
                  obtain ⟨F, hF⟩ : ∃ F, F = S.bytes.map byteV := ⟨_, rfl⟩
                  rw [← hF] at ho
                  have hFV : shaV l = .agg F.toArray := by rw [hF, HS.out]; rfl
                  have hFl : F.length = 32 := by rw [hF]; rfl
                  have h1c : ∀ v ∈ F, v.oneCell' = true := by rw [hF]; exact byteV_one
                  have HRF := Lib.hid ho
                  have HFV := Lib.hid hFV
                  have HZL : Hid (Z.toList.length = F.length) := Lib.hid (by rw [HZ.out, hFl]; simp)
                  have HI : Hid ((Try.prog.info? 26).map (·.size) = some F.length) := Lib.hid (by rw [hFl]; exact Try.infoB32n)
                  have HC := Lib.hid h1c
                  have hn32 : ¬ ((k : Int) < 32) := by omega
                  clear h32 ho hF hFV hFl h1c hlt hk HO
                  go_wp2_with (first | (refine wpList_load_mid rfl 26 _ rfl go 0 rfl F _ HRF.out.whole Try.underlying26 rfl HI.out ?_) | (refine wpList_store_mid rfl 26 _ _ rfl w.heap.size 0 F.toArray rfl rfl (HR.out.there 0 _ (by rw [HZL.out]; simp)) (by rw [HI.out]; simp) (all_oneCell_toArray HC.out) ?_))
                  have hend := HR.out.storedAll F HZL.out
                  refine bodyPost_ret (v := .agg F.toArray) ?_ rfl ⟨by rw [HFV.out], below_setCells (Nat.le_refl _) _ _ _ HB.out⟩
                  exact results_cell_row rfl _ _ w.heap.size _ _ _ _ rfl hend.2 Try.underlying26 rfl (by rw [HI.out]; simp)
    · have hne : ((M : Int) % 64 != 56) = true := by
        rw [bne_iff_ne]
        intro h
        apply hlt
        apply HSPEC.out.1
        omega
      have hM := HM.out
      have hMb : M < 1099511627776 := by omega
      have HJ : Hid (j < padZ N) := Lib.hid (by omega)
      clear hM hlt hj HSPEC hpz
      go_wp2_with (at_builtin; refine wpList_append1 rfl _ _ 23 rfl B2 5 rfl i0 (.int .u8 0) 1 Try.underlying23 hi hz0 hz1 hz2 rfl (.slice a6 M c6) M _ rfl HO.out rfl rfl hMb (by decide) (Nat.le_trans (by rw [HB2.out]; exact Nat.le_refl _) HB.out.size) ?_; intro v7 w7 hown7 hb7; obtain ⟨a7, c7, rfl⟩ := own_len hown7)
      go_roundw
      case rel =>
        have hM := HM.out
        have hJ := HJ.out
        refine ⟨j + 1, M + 1, a7, c7, rfl, by omega, Lib.hid (by omega), Lib.hid ?_, Lib.hid (HB.out.trans hb7)⟩
        rw [List.replicate_succ', ← List.append_assoc, List.map_append]
        exact hown7
      case measure =>
        have hM := HM.out
        have hJ := HJ.out
        simp [lenOf]
        omega

end Go.Proofs.Ytcpioladmcidcaa
