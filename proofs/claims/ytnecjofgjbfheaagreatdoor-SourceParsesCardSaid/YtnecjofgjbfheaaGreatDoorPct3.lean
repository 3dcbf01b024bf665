/- Encode, the code's and the reference's: each gives the plain one's bytes. -/
import Derived.Test.YtnecjofgjbfheaaGreatDoorShelf
import Derived.Lib.Strings
import Derived.Test.YtnecjofgjbfheaaGreatDoorProg
import Derived.Test.YtnecjofgjbfheaaGreatDoorKit
import Derived.Test.YtnecjofgjbfheaaGreatDoorInfo
import Derived.Test.YtnecjofgjbfheaaGreatDoorRow
import Derived.Test.YtnecjofgjbfheaaGreatDoorRow2
import Derived.Test.YtnecjofgjbfheaaGreatDoorCod8
import Derived.Test.YtnecjofgjbfheaaGreatDoorTxt0
import Derived.Test.YtnecjofgjbfheaaGreatDoorStp
import Derived.Test.YtnecjofgjbfheaaGreatDoorPct0
namespace Go.Proofs.YtnecjofgjbfheaaGreatDoor
open Go.RowKit Go.Proofs
set_option maxRecDepth 100000

/-- The digits as a string. -/
def hexS16 : ByteArray := ⟨#[48, 49, 50, 51, 52, 53, 54, 55, 56, 57, 65, 66, 67, 68, 69, 70]⟩

theorem hexS16_at : ∀ j : Fin 16, hexS16.data[j.val]'(j.isLt) = hexB j.val := by decide +kernel

theorem run_hexdig {P : Program} {t : TypeId} (ht : P.underlying t = some .string) {q : Nat} (h : q < 16) (k : IntKind) (W : World) :
    (Instr.index t (.string hexS16) (.int k (q : Int))).run P W = .ok (.int .u8 ((hexB q).toNat : Int)) W := by
  have hlt : 0 ≤ (q : Int) ∧ (q : Int) < hexS16.size := ⟨by omega, by show (q : Int) < ((16 : Nat) : Int); omega⟩
  rw [run_index_string W t hexS16 k q ht, dif_pos hlt]
  have h2 := hexS16_at ⟨q, h⟩
  have h3 : hexS16[(q : Int).toNat]'(by rw [Int.toNat_natCast]; exact h) = hexB q := h2
  rw [h3]

theorem map_enc (k : Int) (s : ByteArray) (i : Nat) (h : i < s.size) (hy : inB k s[i] = true) : (encL k (s.data.toList.take i)).map byteV ++ [.int .u8 37, .int .u8 ((hexB (s[i].toNat / 16)).toNat : Int), .int .u8 ((hexB (s[i].toNat % 16)).toNat : Int)] = (encL k (s.data.toList.take (i + 1))).map byteV := by
  rw [encL_snoc k s i h, encB_yes hy, List.map_append]
  rfl

theorem map_raw (k : Int) (s : ByteArray) (i : Nat) (h : i < s.size) (hy : inB k s[i] = false) : (encL k (s.data.toList.take i)).map byteV ++ [.int .u8 (s[i].toNat : Int)] = (encL k (s.data.toList.take (i + 1))).map byteV := by
  rw [encL_snoc k s i h, encB_no hy, List.map_append]
  rfl

theorem three_new (w : World) (x y z : Value) (e : TypeId) : ∀ j u, [x, y, z][j]? = some u → (w.alloc (.cells #[x, y, z] e)).cell? ((⟨w.heap.size, 0, none⟩ : Addr).add j) = some u := by
  intro j u hj
  match j, hj with
  | 0, hj => simp at hj; subst hj; simp [Addr.add]
  | 1, hj => simp at hj; subst hj; simp [Addr.add]
  | 2, hj => simp at hj; subst hj; simp [Addr.add]

theorem three_one (x y z : Int) : ∀ u ∈ [Value.int .u8 x, Value.int .u8 y, Value.int .u8 z], u.oneCell' = true := by
  intro u hu
  simp at hu
  rcases hu with rfl | rfl | rfl <;> rfl

set_option maxHeartbeats 1000000 in
theorem ref_encode_any (s : ByteArray) (hs : s.size ≤ 1073741824) (k : Int) (w : World) :
    Calls Tryz.prog 83 #[.string s, .int .i64 k] w fun e w' => e = .returned (.string ⟨(encL k s.data.toList).toArray⟩) ∧ Below w.heap.size w w' := by
  obtain ⟨i0, hi, hz0, hz1, hz2⟩ := info_parts Tryz.infoByte
  go_enter Tryz.func83, Tryz.ntmps83
  go_wp2
  go_loopw [6, 7] (fun v i wr => ∃ (n M : Nat) (a : Option Addr) (c : Nat), v = .slice a M c ∧ i = .int .i64 n ∧ n ≤ s.size ∧ Hid (M = (encL k (s.data.toList.take n)).length) ∧ Hid (wr.ownsRow w.heap.size 5 1 (.slice a M c) M ((encL k (s.data.toList.take n)).map byteV)) ∧ Hid (Below w.heap.size w wr)) (fun _ i _ => s.size - (intOf i).toNat)
  case atStart => exact ⟨0, 0, none, 0, rfl, rfl, Nat.zero_le _, Lib.hid rfl, Lib.hid ⟨rfl, .inl ⟨rfl, rfl⟩⟩, Lib.hid (Below.refl _ _)⟩
  case round =>
    obtain ⟨n, M, a, c, rfl, rfl, hn, HM, HO, HB⟩ := hrel
    have HMB : Hid (M + 3 < 1099511627776) := Lib.hid (by
      have h1 := encL_len k (s.data.toList.take n)
      have h2 : (s.data.toList.take n).length ≤ n := by rw [List.length_take]; omega
      have := HM.out
      omega)
    by_cases hlt : n < s.size
    · cases hy : inB k s[n]
      · have HC := Lib.hid (map_raw k s n hlt hy)
        have HLN : Hid ((encL k (s.data.toList.take (n + 1))).length = M + 1) := Lib.hid (by rw [encL_snoc k s n hlt, encB_no hy, List.length_append, ← HM.out]; rfl)
        have hin := ref_in_any s[n] k wr
        rw [hy] at hin
        clear hy
        go_wp2_with fail
        refine hin.mono ?_
        rintro e w1 ⟨rfl, rfl⟩
        have hsz := HB.out.size
        have hown := HO.out
        have hmb := HMB.out
        go_wp2_with (at_builtin; refine wpList_append1 rfl _ _ 76 rfl w.heap.size 5 rfl i0 (.int .u8 0) 1 Tryz.underlying76 hi hz0 hz1 hz2 rfl _ M _ rfl hown rfl rfl (by omega) (by omega) hsz ?_; intro v' w' hown' hb')
        obtain ⟨a2, c2, rfl⟩ := own_len hown'
        have HB2 : Hid (Below w.heap.size w w') := Lib.hid (HB.out.trans hb')
        have HO2 := Lib.hid hown'
        clear hb' hown' hown hsz hmb
        go_wp2_with fail
        go_roundw
        case rel =>
          refine ⟨n + 1, M + 1, a2, c2, rfl, by go_num, by omega, Lib.hid HLN.out.symm, Lib.hid ?_, HB2⟩
          rw [← HC.out]
          exact HO2.out
        case measure => simp [intOf]; omega
      · have HC := Lib.hid (map_enc k s n hlt hy)
        have HLN : Hid ((encL k (s.data.toList.take (n + 1))).length = M + 3) := Lib.hid (by rw [encL_snoc k s n hlt, encB_yes hy, List.length_append, ← HM.out]; rfl)
        have hin := ref_in_any s[n] k wr
        rw [hy] at hin
        have hx256 := s[n].toNat_lt
        obtain ⟨q, hq⟩ : ∃ q, q = s[n].toNat / 16 := ⟨_, rfl⟩
        obtain ⟨r, hr⟩ : ∃ r, r = s[n].toNat % 16 := ⟨_, rfl⟩
        have e1 : (s[n].toNat : Int) / 16 = (q : Int) := by omega
        have e2 : bits .and .u8 (s[n].toNat : Int) 15 = (r : Int) := by rw [and15, hr]
        have kq := fun W => run_hexdig (P := Tryz.prog) (t := 9) Tryz.underlying9 (show q < 16 by omega) .u8 W
        have kr := fun W => run_hexdig (P := Tryz.prog) (t := 9) Tryz.underlying9 (show r < 16 by omega) .u8 W
        unfold hexS16 at kq kr
        rw [← hq, ← hr] at HC
        obtain ⟨dq, hdq⟩ : ∃ dq, dq = hexB q := ⟨_, rfl⟩
        obtain ⟨dr, hdr⟩ : ∃ dr, dr = hexB r := ⟨_, rfl⟩
        rw [← hdq] at kq HC
        rw [← hdr] at kr HC
        clear hy hq hr hx256 hdq hdr
        go_wp2_with fail
        refine hin.mono ?_
        rintro e w1 ⟨rfl, rfl⟩
        go_wp2_with fail
        go_region_law (refine step_append_own1 rfl (.tmp 19) (.tmp 32) 76 rfl w.heap.size 5 i0 (.int .u8 0) Tryz.underlying76 hi hz0 hz1 hz2 rfl (.slice a M c) M _ rfl (HO.out.alloc (.cells #[.int .u8 37, .int .u8 (dq.toNat : Int), .int .u8 (dr.toNat : Int)] 5)) ⟨w1.heap.size, 0, none⟩ 3 3 [.int .u8 37, .int .u8 (dq.toNat : Int), .int .u8 (dr.toNat : Int)] rfl rfl (three_new w1 _ _ _ _) (three_one _ _ _) HMB.out (Nat.le_trans HB.out.size (by simp)) ?_; intro v2 w2 hown2 hb2)
        all_goals
          obtain ⟨a2, c2, rfl⟩ := own_len hown2.out
          have HB2 : Hid (Below w.heap.size w w2) := Lib.hid (by
            first
              | exact (HB.out.alloc HB.out.size _).trans hb2.out
              | exact (below_draws (HB.out.alloc HB.out.size _) ⟨1, rfl⟩).trans hb2.out)
          clear hb2 kq kr e1 e2
          go_wp2_with fail
          go_roundw
          case rel =>
            refine ⟨n + 1, M + 3, a2, c2, rfl, by go_num, by omega, Lib.hid HLN.out.symm, Lib.hid ?_, HB2⟩
            rw [← HC.out]
            exact hown2.out
          case measure => simp [intOf]; omega
    · have hkn : s.data.toList.take n = s.data.toList := List.take_of_length_le (by rw [size_data]; omega)
      have ho := HO.out
      rw [hkn] at ho
      have kc := run_convert_own (P := Tryz.prog) 76 5 9 Tryz.underlying76 Tryz.underlying5 Tryz.underlying9 ho
      clear hkn ho HO HM
      go_wp2
      go_ret
      exact ⟨rfl, HB.out⟩

theorem digit_any (c : UInt8) (w : World) :
    Calls Tryz.prog 133 #[.int .u8 c.toNat] w fun e w' => e = .returned (.tuple #[.int .u8 (if 0 ≤ hexI c.toNat then hexI c.toNat else 0), .bool (decide (0 ≤ hexI c.toNat))]) ∧ w' = w := by
  have hc := c.toNat_lt
  obtain ⟨n, hn⟩ : ∃ n : Int, n = c.toNat := ⟨_, rfl⟩
  have h0 : 0 ≤ n ∧ n ≤ 255 := by omega
  rw [← hn]
  clear hn hc
  by_cases a1 : 48 ≤ n ∧ n ≤ 57
  · obtain ⟨b1, b2⟩ := a1
    have hv : hexI n = n - 48 := by unfold hexI; rw [if_pos ⟨b1, b2⟩]
    rw [hv, if_pos (by omega), decide_eq_true (by omega)]
    go_enter Tryz.func133, Tryz.ntmps133
    go_wp2
    go_ret2
    exact ⟨rfl, rfl⟩
  · by_cases a2 : 65 ≤ n ∧ n ≤ 70
    · obtain ⟨b1, b2⟩ := a2
      have hv : hexI n = n - 55 := by unfold hexI; rw [if_neg a1, if_pos ⟨b1, b2⟩]
      have d1 : ¬ n ≤ 57 := by omega
      have e3 : n - 65 + 10 = n - 55 := by omega
      rw [hv, if_pos (by omega), decide_eq_true (by omega)]
      clear a1
      go_enter Tryz.func133, Tryz.ntmps133
      go_wp2
      go_ret2
      exact ⟨by first | rfl | rw [e3], rfl⟩
    · by_cases a3 : 97 ≤ n ∧ n ≤ 102
      · obtain ⟨b1, b2⟩ := a3
        have hv : hexI n = n - 87 := by unfold hexI; rw [if_neg a1, if_neg a2, if_pos ⟨b1, b2⟩]
        have d1 : ¬ n ≤ 57 := by omega
        have d2 : ¬ n ≤ 70 := by omega
        have e3 : n - 97 + 10 = n - 87 := by omega
        rw [hv, if_pos (by omega), decide_eq_true (by omega)]
        clear a1 a2
        go_enter Tryz.func133, Tryz.ntmps133
        go_wp2
        go_ret2
        exact ⟨by first | rfl | rw [e3], rfl⟩
      · have hv : hexI n = -1 := by unfold hexI; rw [if_neg a1, if_neg a2, if_neg a3]
        rw [hv, if_neg (by omega), decide_eq_false (by omega)]
        by_cases c1 : 48 ≤ n
        · have c2 : ¬ n ≤ 57 := by omega
          by_cases c3 : 65 ≤ n
          · have c4 : ¬ n ≤ 70 := by omega
            by_cases c5 : 97 ≤ n
            · have c6 : ¬ n ≤ 102 := by omega
              clear a1 a2 a3
              go_enter Tryz.func133, Tryz.ntmps133
              go_wp2
              go_ret2
              exact ⟨rfl, rfl⟩
            · clear a1 a2 a3
              go_enter Tryz.func133, Tryz.ntmps133
              go_wp2
              go_ret2
              exact ⟨rfl, rfl⟩
          · have c5 : ¬ 97 ≤ n := by omega
            clear a1 a2 a3
            go_enter Tryz.func133, Tryz.ntmps133
            go_wp2
            go_ret2
            exact ⟨rfl, rfl⟩
        · have c3 : ¬ 65 ≤ n := by omega
          have c5 : ¬ 97 ≤ n := by omega
          clear a1 a2 a3
          go_enter Tryz.func133, Tryz.ntmps133
          go_wp2
          go_ret2
          exact ⟨rfl, rfl⟩

theorem hex_any9 (c : UInt8) (w : World) :
    Calls Tryz.prog 94 #[.int .u8 c.toNat] w fun e w' => e = .returned (.int .i64 (hexI c.toNat)) ∧ w' = w := by
  have hc := c.toNat_lt
  obtain ⟨n, hn⟩ : ∃ n : Int, n = c.toNat := ⟨_, rfl⟩
  have h0 : 0 ≤ n ∧ n ≤ 255 := by omega
  rw [← hn]
  clear hn hc
  by_cases a1 : 48 ≤ n ∧ n ≤ 57
  · obtain ⟨b1, b2⟩ := a1
    have hv : hexI n = n - 48 := by unfold hexI; rw [if_pos ⟨b1, b2⟩]
    rw [hv]
    go_enter Tryz.func94, Tryz.ntmps94
    go_wp2
    go_ret
    exact ⟨rfl, rfl⟩
  · by_cases a2 : 65 ≤ n ∧ n ≤ 70
    · obtain ⟨b1, b2⟩ := a2
      have hv : hexI n = n - 55 := by unfold hexI; rw [if_neg a1, if_pos ⟨b1, b2⟩]
      have d1 : ¬ n ≤ 57 := by omega
      have d2 : ¬ 97 ≤ n := by omega
      have d3 : 48 ≤ n := by omega
      have e3 : n - 65 + 10 = n - 55 := by omega
      rw [hv]
      clear a1
      go_enter Tryz.func94, Tryz.ntmps94
      go_wp2
      go_ret
      exact ⟨by first | rfl | rw [e3], rfl⟩
    · by_cases a3 : 97 ≤ n ∧ n ≤ 102
      · obtain ⟨b1, b2⟩ := a3
        have hv : hexI n = n - 87 := by unfold hexI; rw [if_neg a1, if_neg a2, if_pos ⟨b1, b2⟩]
        have d1 : ¬ n ≤ 57 := by omega
        have d3 : 48 ≤ n := by omega
        have e3 : n - 97 + 10 = n - 87 := by omega
        rw [hv]
        clear a1 a2
        go_enter Tryz.func94, Tryz.ntmps94
        go_wp2
        go_ret
        exact ⟨by first | rfl | rw [e3], rfl⟩
      · have hv : hexI n = -1 := by unfold hexI; rw [if_neg a1, if_neg a2, if_neg a3]
        rw [hv]
        by_cases c1 : 48 ≤ n
        · have c2 : ¬ n ≤ 57 := by omega
          by_cases c3 : 65 ≤ n
          · have c4 : ¬ n ≤ 70 := by omega
            by_cases c5 : 97 ≤ n
            · have c6 : ¬ n ≤ 102 := by omega
              clear a1 a2 a3
              go_enter Tryz.func94, Tryz.ntmps94
              go_wp2
              go_ret
              exact ⟨rfl, rfl⟩
            · clear a1 a2 a3
              go_enter Tryz.func94, Tryz.ntmps94
              go_wp2
              go_ret
              exact ⟨rfl, rfl⟩
          · have c5 : ¬ 97 ≤ n := by omega
            clear a1 a2 a3
            go_enter Tryz.func94, Tryz.ntmps94
            go_wp2
            go_ret
            exact ⟨rfl, rfl⟩
        · have c3 : ¬ 65 ≤ n := by omega
          have c5 : ¬ 97 ≤ n := by omega
          clear a1 a2 a3
          go_enter Tryz.func94, Tryz.ntmps94
          go_wp2
          go_ret
          exact ⟨rfl, rfl⟩

theorem getD_at (s : ByteArray) (i : Nat) (h : i < s.size) : s.data.toList.getD i 0 = s[i] := by
  rw [List.getD_eq_getElem?_getD, List.getElem?_eq_getElem (by rw [size_data]; exact h)]
  rfl

theorem or16 : ∀ a b : Fin 16, bits .or .u8 ((16 * a.val : Nat) : Int) (b.val : Int) = ((16 * a.val + b.val : Nat) : Int) := by decide +kernel

theorem pfirst_any (s : ByteArray) (h0 : 0 < s.size) (w : World) :
    Calls Tryz.prog 117 #[.string s] w fun e w' => e = .returned (.tuple #[.int .u8 ((if escB s.data.toList then valB s.data.toList else s.data.toList.getD 0 0).toNat : Int), .int .i64 (if escB s.data.toList then 3 else 1)]) ∧ w' = w := by
  have g0 := getD_at s 0 h0
  by_cases h3 : s.size < 3
  · have hz : (s.size : Int) < 3 := by omega
    have he : escB s.data.toList = false := by
      rw [Bool.eq_false_iff]
      intro h
      have := escB_len h
      rw [size_data] at this
      omega
    rw [he, g0]
    clear he g0
    go_enter Tryz.func117, Tryz.ntmps117
    go_wp2
    go_ret2
    exact ⟨rfl, rfl⟩
  · have hz : ¬ (s.size : Int) < 3 := by omega
    have l1 : 1 < s.size := by omega
    have l2 : 2 < s.size := by omega
    have g1 := getD_at s 1 l1
    have g2 := getD_at s 2 l2
    have i0 : (0 : Int) < s.size := by omega
    have i1 : (1 : Int) < s.size := by omega
    have i2 : (2 : Int) < s.size := by omega
    by_cases hp : s[0].toNat = 37
    · have hpz : ((s[0].toNat : Int) == 37) = true := beq_iff_eq.2 (by omega)
      have HI := Lib.hid (escB_iff s.data.toList)
      have HV := Lib.hid (valB_toNat s.data.toList)
      rw [g0, g1, g2] at HI
      rw [g1, g2] at HV
      rw [g0]
      have d1 := digit_any s[1] w
      have d2 := digit_any s[2] w
      have b1 := hexI_bd s[1].toNat
      have b2 := hexI_bd s[2].toNat
      obtain ⟨a, ha⟩ : ∃ a, a = hexI s[1].toNat := ⟨_, rfl⟩
      obtain ⟨b, hb⟩ : ∃ b, b = hexI s[2].toNat := ⟨_, rfl⟩
      rw [← ha] at HI HV d1 b1
      rw [← hb] at HI HV d2 b2
      clear ha hb g0 g1 g2
      by_cases c1 : 0 ≤ a
      · by_cases c2 : 0 ≤ b
        · have he : escB s.data.toList = true := HI.out.2 ⟨by omega, c1, c2⟩
          have hv := HV.out he
          rw [if_pos c1, decide_eq_true c1] at d1
          rw [if_pos c2, decide_eq_true c2] at d2
          have ho : bits .or .u8 (a * 16) b = 16 * a + b := by
            have := or16 ⟨a.toNat, by omega⟩ ⟨b.toNat, by omega⟩
            simp only at this
            rw [show ((16 * a.toNat : Nat) : Int) = a * 16 from by omega, show (b.toNat : Int) = b from by omega] at this
            rw [this]
            omega
          rw [he]
          simp only [if_true]
          rw [hv]
          clear he hv HI HV
          go_enter Tryz.func117, Tryz.ntmps117
          go_wp2_with fail
          refine d1.mono ?_
          rintro e w1 ⟨rfl, rfl⟩
          go_wp2_with fail
          refine d2.mono ?_
          rintro e w2 ⟨rfl, rfl⟩
          go_wp2
          go_ret2
          exact ⟨rfl, rfl⟩
        · have he : escB s.data.toList = false := by
            rw [Bool.eq_false_iff]
            exact fun h => c2 (HI.out.1 h).2.2
          rw [if_pos c1, decide_eq_true c1] at d1
          rw [if_neg c2, decide_eq_false c2] at d2
          rw [he]
          have hs0 : s[0].toNat = 37 := hp
          simp only [if_false, Bool.false_eq_true]
          rw [hs0]
          clear he HI HV
          go_enter Tryz.func117, Tryz.ntmps117
          go_wp2_with fail
          refine d1.mono ?_
          rintro e w1 ⟨rfl, rfl⟩
          go_wp2_with fail
          refine d2.mono ?_
          rintro e w2 ⟨rfl, rfl⟩
          go_wp2
          go_ret2
          exact ⟨rfl, rfl⟩
      · have he : escB s.data.toList = false := by
          rw [Bool.eq_false_iff]
          exact fun h => c1 (HI.out.1 h).2.1
        rw [if_neg c1, decide_eq_false c1] at d1
        rw [he]
        have hs0 : s[0].toNat = 37 := hp
        simp only [if_false, Bool.false_eq_true]
        rw [hs0]
        clear he HI HV
        go_enter Tryz.func117, Tryz.ntmps117
        go_wp2_with fail
        refine d1.mono ?_
        rintro e w1 ⟨rfl, rfl⟩
        go_wp2_with fail
        refine d2.mono ?_
        rintro e w2 ⟨rfl, rfl⟩
        go_wp2
        all_goals
          go_ret2
          exact ⟨rfl, rfl⟩
    · have hpz : ((s[0].toNat : Int) == 37) = false := beq_eq_false_iff_ne.2 (by omega)
      have he : escB s.data.toList = false := by
        rw [Bool.eq_false_iff]
        intro h
        have h1 := ((escB_iff _).1 h).1
        rw [g0] at h1
        exact hp (by omega)
      rw [he, g0]
      clear he g0 g1 g2
      go_enter Tryz.func117, Tryz.ntmps117
      go_wp2
      go_ret2
      exact ⟨rfl, rfl⟩

/-- What Decode has still to do: with the byte that is read now. -/
theorem dec_step (t : ByteArray) (h0 : 0 < t.size) : decL t.data.toList = (if escB t.data.toList then valB t.data.toList else t.data.toList.getD 0 0) :: decL (t.data.toList.drop (if escB t.data.toList then 3 else 1)) := by
  have hne : t.data.toList ≠ [] := by
    intro e
    have := congrArg List.length e
    rw [size_data, List.length_nil] at this
    omega
  cases he : escB t.data.toList
  · rw [decL_raw hne he]
    simp
  · rw [decL_esc he]
    simp

theorem esc_size {t : ByteArray} (h : escB t.data.toList = true) : 3 ≤ t.size := by
  have := escB_len h
  rw [size_data] at this
  exact this

theorem pdecode_any (s : ByteArray) (hs : s.size ≤ 1073741824) (w : World) :
    Calls Tryz.prog 93 #[.string s] w fun e w' => e = .returned (.string ⟨(decL s.data.toList).toArray⟩) ∧ Below w.heap.size w w' := by
  have HB0 := Lib.hid ((Below.refl w.heap.size w).alloc (Nat.le_refl _) (.cells #[.pointer none, .slice none 0 0] 101))
  have HI0 := Lib.hid (Lib.fresh_isBuilder 101 5 w)
  go_enter Tryz.func93, Tryz.ntmps93
  go_wp2
  go_loopw [0] (fun v wr => ∃ (t : ByteArray) (out : List UInt8), v = .string t ∧ Hid (out.length + t.size ≤ s.size) ∧ Hid (out ++ decL t.data.toList = decL s.data.toList) ∧ Hid (Below w.heap.size w wr) ∧ Hid (Lib.IsBuilder 101 5 w.heap.size w.heap.size (Lib.byteCells out) wr)) (fun v _ => strSize v)
  case atStart => exact ⟨s, [], rfl, Lib.hid (by simp), Lib.hid rfl, HB0, HI0⟩
  case round =>
    obtain ⟨t, out, rfl, HL, HD, HBW, HI⟩ := hrel
    by_cases h0 : 0 < t.size
    · have hz : (0 : Int) < (t.size : Int) := by omega
      have hf := pfirst_any t h0
      have HS := Lib.hid (dec_step t h0)
      cases he : escB t.data.toList
      · rw [he] at hf HS
        simp only [if_false, Bool.false_eq_true] at hf HS
        clear he
        go_wp2_with fail
        refine (hf _).mono ?_
        rintro e w1 ⟨rfl, rfl⟩
        go_wp2_with fail
        refine (bwrite w.heap.size w.heap.size _ _ _ HI.out (by have := HL.out; rw [Lib.byteCells_length]; omega) HBW.out.size).mono ?_
        rintro e w2 ⟨rfl, hI2, hb2⟩
        have HI2 := Lib.hid hI2
        have HB2 := Lib.hid (HBW.out.trans hb2)
        clear hI2 hb2
        go_wp2
        go_roundw
        case rel =>
          refine ⟨t.extract 1 t.size, out ++ [t.data.toList.getD 0 0], rfl, Lib.hid ?_, Lib.hid ?_, HB2, Lib.hid (.inr ?_)⟩
          · have := HL.out
            rw [List.length_append, List.length_singleton, ByteArray.size_extract]
            omega
          · rw [extract_tail, ← HD.out, HS.out]
            simp
          · rw [Lib.byteCells_append, getD_at t 0 h0]
            exact HI2.out
        case measure => simp [strSize, ByteArray.size_extract]; omega
      · have h3 := esc_size he
        have h3z : (3 : Int) ≤ (t.size : Int) := by omega
        rw [he] at hf HS
        simp only [if_true] at hf HS
        clear he
        go_wp2_with fail
        refine (hf _).mono ?_
        rintro e w1 ⟨rfl, rfl⟩
        go_wp2_with fail
        refine (bwrite w.heap.size w.heap.size _ _ _ HI.out (by have := HL.out; rw [Lib.byteCells_length]; omega) HBW.out.size).mono ?_
        rintro e w2 ⟨rfl, hI2, hb2⟩
        have HI2 := Lib.hid hI2
        have HB2 := Lib.hid (HBW.out.trans hb2)
        clear hI2 hb2
        go_wp2
        go_roundw
        case rel =>
          refine ⟨t.extract 3 t.size, out ++ [valB t.data.toList], rfl, Lib.hid ?_, Lib.hid ?_, HB2, Lib.hid (.inr ?_)⟩
          · have := HL.out
            rw [List.length_append, List.length_singleton, ByteArray.size_extract]
            omega
          · rw [extract_tail, ← HD.out, HS.out]
            simp
          · rw [Lib.byteCells_append]
            exact HI2.out
        case measure => simp [strSize, ByteArray.size_extract]; omega
    · have hz : ¬ (0 : Int) < (t.size : Int) := by omega
      have hd := HD.out
      rw [nil_of_size (show t.size = 0 by omega), decL_nil, List.append_nil] at hd
      subst hd
      go_wp2_with fail
      refine (Tryz.Builder_String_any w.heap.size w.heap.size _ _ HI.out HBW.out.size).mono ?_
      rintro e w2 ⟨rfl, hb2⟩
      have HB2 := Lib.hid (HBW.out.trans hb2)
      go_wp2
      go_ret
      exact ⟨rfl, HB2.out⟩

theorem drop_esc (s : ByteArray) (n : Nat) (h : n < s.size) : escB (s.data.toList.drop n) = true ↔ (s[n].toNat : Int) = 37 ∧ ∃ h2 : n + 2 < s.size, 0 ≤ hexI s[n + 1].toNat ∧ 0 ≤ hexI s[n + 2].toNat := by
  have g : ∀ i (hi : n + i < s.size), (s.data.toList.drop n).getD i 0 = s[n + i] := by
    intro i hi
    rw [List.getD_eq_getElem?_getD, List.getElem?_drop, ← List.getD_eq_getElem?_getD, getD_at s (n + i) hi]
  constructor
  · intro he
    have hl := escB_len he
    rw [List.length_drop, size_data] at hl
    have h1 := (escB_iff _).1 he
    rw [g 0 (by omega), g 1 (by omega), g 2 (by omega)] at h1
    exact ⟨h1.1, by omega, h1.2⟩
  · rintro ⟨h1, h2, h3⟩
    rw [escB_iff, g 0 (by omega), g 1 (by omega), g 2 (by omega)]
    exact ⟨h1, h3⟩

theorem one_new (w : World) (x : Value) (e : TypeId) : ∀ (j : Nat) (u : Value), [x][j]? = some u → (w.drew.alloc (.cells #[x] e)).cell? ((⟨w.heap.size, 0, none⟩ : Addr).add j) = some u := by
  intro j u hj
  rw [Addr.add_mid, Nat.zero_add]
  show (w.drew.alloc (.cells #[x] e)).cell? ⟨w.drew.heap.size, j, none⟩ = some u
  rw [alloc_cell]
  match j, hj with
  | 0, hj => exact hj

theorem one_one (x : Int) : ∀ u ∈ [Value.int .u8 x], u.oneCell' = true := by
  intro u hu
  simp at hu
  subst hu
  rfl

theorem run_index_nat {P : Program} {t : TypeId} (ht : P.underlying t = some .string) (s : ByteArray) (q : Nat) (h : q < s.size) (W : World) :
    (Instr.index t (.string s) (.int .i64 (q : Int))).run P W = .ok (.int .u8 (s[q].toNat : Int)) W := by
  have hlt : 0 ≤ (q : Int) ∧ (q : Int) < s.size := ⟨by omega, by omega⟩
  rw [run_index_string W t s .i64 q ht, dif_pos hlt]
  rfl

theorem dec_raw_at (s : ByteArray) (n : Nat) (h : n < s.size) (he : escB (s.data.toList.drop n) = false) : decL (s.data.toList.drop n) = s[n] :: decL (s.data.toList.drop (n + 1)) := by
  have hc : s.data.toList.drop n = s[n] :: s.data.toList.drop (n + 1) := by
    rw [List.drop_eq_getElem_cons (by rw [size_data]; exact h)]
    rfl
  rw [decL_raw (by rw [hc]; simp) he, hc]
  simp

theorem dec_esc_at (s : ByteArray) (n : Nat) (he : escB (s.data.toList.drop n) = true) : decL (s.data.toList.drop n) = valB (s.data.toList.drop n) :: decL (s.data.toList.drop (n + 3)) := by
  rw [decL_esc he, List.drop_drop]

set_option maxHeartbeats 2000000 in
theorem ref_decode_any (s : ByteArray) (hs : s.size ≤ 1073741824) (w : World) :
    Calls Tryz.prog 56 #[.string s] w fun e w' => e = .returned (.string ⟨(decL s.data.toList).toArray⟩) ∧ Below w.heap.size w w' := by
  obtain ⟨i0, hi, hz0, hz1, hz2⟩ := info_parts Tryz.infoByte
  go_enter Tryz.func56, Tryz.ntmps56
  go_wp2
  go_loopw [3, 4] (fun v i wr => ∃ (n : Nat) (out : List UInt8) (a : Option Addr) (c : Nat), v = .slice a out.length c ∧ i = .int .i64 n ∧ n ≤ s.size ∧ Hid (out.length ≤ n) ∧ Hid (out ++ decL (s.data.toList.drop n) = decL s.data.toList) ∧ Hid (wr.ownsRow w.heap.size 5 1 (.slice a out.length c) out.length (out.map byteV)) ∧ Hid (Below w.heap.size w wr)) (fun _ i _ => s.size - (intOf i).toNat)
  case atStart => exact ⟨0, [], none, 0, rfl, rfl, Nat.zero_le _, Lib.hid (Nat.zero_le _), Lib.hid rfl, Lib.hid ⟨rfl, .inl ⟨rfl, rfl⟩⟩, Lib.hid (Below.refl _ _)⟩
  case round =>
    obtain ⟨n, out, a, c, rfl, rfl, hn, HL, HD, HO, HB⟩ := hrel
    by_cases hlt : n < s.size
    · have HE := Lib.hid (drop_esc s n hlt)
      have hin : (n : Int) < (s.size : Int) := by omega
      by_cases hp : (s[n].toNat : Int) = 37
      · have hpz : ((s[n].toNat : Int) == 37) = true := beq_iff_eq.2 hp
        have H37 : Hid ([s[n]].map byteV = [Value.int .u8 37]) := Lib.hid (by rw [List.map_singleton]; unfold byteV; rw [hp])
        by_cases h2 : n + 2 < s.size
        · have h2z : (n : Int) + 2 < (s.size : Int) := by omega
          have h1 : n + 1 < s.size := by omega
          have h1z : (n : Int) + 1 < (s.size : Int) := by omega
          have k1 := hex_any9 s[n + 1] wr
          have k2 := hex_any9 s[n + 2] wr
          have b1 := hexI_bd s[n + 1].toNat
          have b2 := hexI_bd s[n + 2].toNat
          obtain ⟨x, hx⟩ : ∃ x, x = hexI s[n + 1].toNat := ⟨_, rfl⟩
          obtain ⟨y, hy⟩ : ∃ y, y = hexI s[n + 2].toNat := ⟨_, rfl⟩
          rw [← hx] at k1 b1
          rw [← hy] at k2 b2
          by_cases c1 : 0 ≤ x
          · by_cases c2 : 0 ≤ y
            · have HS := Lib.hid (dec_esc_at s n (HE.out.2 ⟨hp, h2, by rw [← hx]; exact c1, by rw [← hy]; exact c2⟩))
              have HVN : Hid (((valB (s.data.toList.drop n)).toNat : Int) = 16 * x + y) := Lib.hid (by
                have he := HE.out.2 ⟨hp, h2, by rw [← hx]; exact c1, by rw [← hy]; exact c2⟩
                have hv := valB_toNat _ he
                rw [hx, hy]
                have g : ∀ i (hi : n + i < s.size), (s.data.toList.drop n).getD i 0 = s[n + i] := by
                  intro i hi
                  rw [List.getD_eq_getElem?_getD, List.getElem?_drop, ← List.getD_eq_getElem?_getD, getD_at s (n + i) hi]
                rw [g 1 (by omega), g 2 (by omega)] at hv
                exact hv)
              have K1 := Lib.hid (fun W => hex_any9 s[n + 1] W)
              have K2 := Lib.hid (fun W => hex_any9 s[n + 2] W)
              rw [← hx] at K1
              rw [← hy] at K2
              obtain ⟨V, hV⟩ : ∃ V, V = valB (s.data.toList.drop n) := ⟨_, rfl⟩
              rw [← hV] at HVN HS
              have hxy : 0 ≤ 16 * x + y ∧ 16 * x + y ≤ 255 := by omega
              have HLT : Hid (out.length + 1 < 1099511627776) := Lib.hid (by have := HL.out; omega)
              have henter : Enters Tryz.prog 94 := enters_of Tryz.func94 (by kernel_rfl) rfl
              clear hx hy HE hV
              go_wp2_with fail
              refine k1.mono ?_
              rintro e w1 ⟨rfl, rfl⟩
              go_wp2_with fail
              refine k2.mono ?_
              rintro e w1 ⟨rfl, rfl⟩
              clear k1 k2
              have z1 : (0 : Int) ≤ (n : Int) + 1 := by omega
              have z2 : (0 : Int) ≤ (n : Int) + 2 := by omega
              have x1 := fun W => run_index_nat (P := Tryz.prog) (t := 9) Tryz.underlying9 s (n + 1) h1 W
              have x2 := fun W => run_index_nat (P := Tryz.prog) (t := 9) Tryz.underlying9 s (n + 2) h2 W
              simp only [Int.natCast_add, Int.cast_ofNat_Int] at x1 x2
              have v1 : IntKind.i64.wrap ((n : Int) + 1) = (n : Int) + 1 := by rw [IntKind.wrap_i64]; omega
              have v2 : IntKind.i64.wrap ((n : Int) + 2) = (n : Int) + 2 := by rw [IntKind.wrap_i64]; omega
              have v3 : IntKind.i64.wrap (16 * x) = 16 * x := by rw [IntKind.wrap_i64]; omega
              have v4 : IntKind.i64.wrap (16 * x + y) = 16 * x + y := by rw [IntKind.wrap_i64]; omega
              have v5 : IntKind.u8.wrap (16 * x + y) = 16 * x + y := by rw [IntKind.wrap_u8]; omega
              have t2 : ((n : Int) + 2).toNat = n + 2 := by omega
              clear x1 x2
              go_wp2_with fail
              go_region_law (first
                | (refine step_call rfl 94 _ _ rfl #[.int .u8 (s[n + 1].toNat : Int)] ?_ henter (K1.out _) ?_; simp [go_sem]; rintro e w2 ⟨rfl, rfl⟩; refine ⟨_, rfl, ?_⟩)
                | (refine step_call rfl 94 _ _ rfl #[.int .u8 (s[n + 2].toNat : Int)] ?_ henter (K2.out _) ?_; simp [go_sem]; rintro e w2 ⟨rfl, rfl⟩; refine ⟨_, rfl, ?_⟩)
                | (refine step_append_own1 rfl (.tmp 38) (.tmp 52) 76 rfl w.heap.size 5 i0 (.int .u8 0) Tryz.underlying76 hi hz0 hz1 hz2 rfl (.slice a out.length c) out.length _ rfl (HO.out.drew.alloc (.cells #[.int .u8 (16 * x + y)] 5)) ⟨w1.heap.size, 0, none⟩ 1 1 [.int .u8 (16 * x + y)] rfl rfl (one_new w1 _ _) (one_one _) HLT.out (Nat.le_trans HB.out.size (by simp)) ?_; intro w2v w2 hown2 hb2))
              all_goals
                obtain ⟨a2, c2, rfl⟩ := own_len hown2.out
                have HB2 : Hid (Below w.heap.size w w2) := Lib.hid ((below_draws (HB.out.alloc HB.out.size _) ⟨1, rfl⟩).trans hb2.out)
                clear hb2
                go_wp2_with fail
                go_roundw
                case rel =>
                  refine ⟨n + 3, out ++ [V], a2, c2, by rw [List.length_append]; rfl, by go_num, by omega, Lib.hid ?_, Lib.hid ?_, Lib.hid ?_, HB2⟩
                  · have := HL.out
                    rw [List.length_append, List.length_singleton]
                    omega
                  · rw [← HD.out, HS.out]
                    simp
                  · rw [List.length_append, List.map_append, List.map_singleton]
                    unfold byteV
                    rw [HVN.out]
                    exact hown2.out
                case measure => simp [intOf]; omega
            · have HS := Lib.hid (dec_raw_at s n hlt (by rw [Bool.eq_false_iff]; exact fun h => c2 (by rw [hy]; exact (HE.out.1 h).2.2.2)))
              have HX := Lib.hid hx
              have HY := Lib.hid hy
              clear hx hy HE
              go_wp2_with fail
              refine k1.mono ?_
              rintro e w1 ⟨rfl, rfl⟩
              go_wp2_with fail
              refine k2.mono ?_
              rintro e w1 ⟨rfl, rfl⟩
              have hsz := HB.out.size
              have hown := HO.out
              have hl := HL.out
              go_wp2_with (at_builtin; refine wpList_append1 rfl _ _ 76 rfl w.heap.size 5 rfl i0 (.int .u8 0) 1 Tryz.underlying76 hi hz0 hz1 hz2 rfl _ out.length _ rfl hown rfl rfl (by omega) (by omega) hsz ?_; intro v' w' hown' hb')
              obtain ⟨a2, c2, rfl⟩ := own_len hown'
              have HB2 : Hid (Below w.heap.size w w') := Lib.hid (HB.out.trans hb')
              have HO2 := Lib.hid hown'
              clear hb' hown' hown hsz hl
              go_wp2_with fail
              go_roundw
              case rel =>
                refine ⟨n + 1, out ++ [s[n]], a2, c2, by rw [List.length_append]; rfl, by go_num, by omega, Lib.hid ?_, Lib.hid ?_, Lib.hid ?_, HB2⟩
                · have := HL.out
                  rw [List.length_append, List.length_singleton]
                  omega
                · rw [← HD.out, HS.out]
                  simp
                · rw [List.length_append, List.map_append]
                  rw [H37.out]
                  exact HO2.out
              case measure => simp [intOf]; omega
          · have HS := Lib.hid (dec_raw_at s n hlt (by rw [Bool.eq_false_iff]; exact fun h => c1 (by rw [hx]; exact (HE.out.1 h).2.2.1)))
            have HX := Lib.hid hx
            have HY := Lib.hid hy
            clear hx hy HE
            go_wp2_with fail
            refine k1.mono ?_
            rintro e w1 ⟨rfl, rfl⟩
            have hsz := HB.out.size
            have hown := HO.out
            have hl := HL.out
            go_wp2_with (at_builtin; refine wpList_append1 rfl _ _ 76 rfl w.heap.size 5 rfl i0 (.int .u8 0) 1 Tryz.underlying76 hi hz0 hz1 hz2 rfl _ out.length _ rfl hown rfl rfl (by omega) (by omega) hsz ?_; intro v' w' hown' hb')
            obtain ⟨a2, c2, rfl⟩ := own_len hown'
            have HB2 : Hid (Below w.heap.size w w') := Lib.hid (HB.out.trans hb')
            have HO2 := Lib.hid hown'
            clear hb' hown' hown hsz hl
            go_wp2_with fail
            go_roundw
            case rel =>
              refine ⟨n + 1, out ++ [s[n]], a2, c2, by rw [List.length_append]; rfl, by go_num, by omega, Lib.hid ?_, Lib.hid ?_, Lib.hid ?_, HB2⟩
              · have := HL.out
                rw [List.length_append, List.length_singleton]
                omega
              · rw [← HD.out, HS.out]
                simp
              · rw [List.length_append, List.map_append]
                rw [H37.out]
                exact HO2.out
            case measure => simp [intOf]; omega
        · have h2z : ¬ (n : Int) + 2 < (s.size : Int) := by omega
          have HS := Lib.hid (dec_raw_at s n hlt (by rw [Bool.eq_false_iff]; exact fun h => h2 (HE.out.1 h).2.1))
          clear HE
          have hsz := HB.out.size
          have hown := HO.out
          have hl := HL.out
          go_wp2_with (at_builtin; refine wpList_append1 rfl _ _ 76 rfl w.heap.size 5 rfl i0 (.int .u8 0) 1 Tryz.underlying76 hi hz0 hz1 hz2 rfl _ out.length _ rfl hown rfl rfl (by omega) (by omega) hsz ?_; intro v' w' hown' hb')
          obtain ⟨a2, c2, rfl⟩ := own_len hown'
          have HB2 : Hid (Below w.heap.size w w') := Lib.hid (HB.out.trans hb')
          have HO2 := Lib.hid hown'
          clear hb' hown' hown hsz hl
          go_wp2_with fail
          go_roundw
          case rel =>
            refine ⟨n + 1, out ++ [s[n]], a2, c2, by rw [List.length_append]; rfl, by go_num, by omega, Lib.hid ?_, Lib.hid ?_, Lib.hid ?_, HB2⟩
            · have := HL.out
              rw [List.length_append, List.length_singleton]
              omega
            · rw [← HD.out, HS.out]
              simp
            · rw [List.length_append, List.map_append]
              rw [H37.out]
              exact HO2.out
          case measure => simp [intOf]; omega
      · have hpz : ((s[n].toNat : Int) == 37) = false := beq_eq_false_iff_ne.2 hp
        have HS := Lib.hid (dec_raw_at s n hlt (by rw [Bool.eq_false_iff]; exact fun h => hp (HE.out.1 h).1))
        clear HE
        have hsz := HB.out.size
        have hown := HO.out
        have hl := HL.out
        go_wp2_with (at_builtin; refine wpList_append1 rfl _ _ 76 rfl w.heap.size 5 rfl i0 (.int .u8 0) 1 Tryz.underlying76 hi hz0 hz1 hz2 rfl _ out.length _ rfl hown rfl rfl (by omega) (by omega) hsz ?_; intro v' w' hown' hb')
        obtain ⟨a2, c2, rfl⟩ := own_len hown'
        have HB2 : Hid (Below w.heap.size w w') := Lib.hid (HB.out.trans hb')
        have HO2 := Lib.hid hown'
        clear hb' hown' hown hsz hl
        go_wp2_with fail
        go_roundw
        case rel =>
          refine ⟨n + 1, out ++ [s[n]], a2, c2, by rw [List.length_append]; rfl, by go_num, by omega, Lib.hid ?_, Lib.hid ?_, Lib.hid ?_, HB2⟩
          · have := HL.out
            rw [List.length_append, List.length_singleton]
            omega
          · rw [← HD.out, HS.out]
            simp
          · rw [List.length_append, List.map_append]
            exact HO2.out
        case measure => simp [intOf]; omega
    · have hd := HD.out
      rw [List.drop_of_length_le (by rw [size_data]; omega), decL_nil, List.append_nil] at hd
      have ho := HO.out
      have HDD := Lib.hid hd
      have kc := run_convert_own (P := Tryz.prog) 76 5 9 Tryz.underlying76 Tryz.underlying5 Tryz.underlying9 ho
      clear ho hd HO HD HL
      go_wp2
      go_ret
      refine ⟨?_, HB.out⟩
      rw [← HDD.out]
      rfl

theorem same_any9 (a b : ByteArray) (ha : a.size ≤ 1073741824) (hb : b.size ≤ 1073741824) (w : World) :
    Calls Tryz.prog 54 #[.string a, .string b] w fun e w' => e = .returned (.bool (decide (decL a.data.toList = decL b.data.toList))) ∧ Below w.heap.size w w' := by
  by_cases he : decL a.data.toList = decL b.data.toList
  · rw [decide_eq_true he]
    have HE := Lib.hid he
    clear he
    go_enter Tryz.func54, Tryz.ntmps54
    go_wp2_with fail
    refine (pdecode_any a ha _).mono ?_
    rintro e w1 ⟨rfl, hb1⟩
    go_wp2_with fail
    refine (pdecode_any b hb _).mono ?_
    rw [← HE.out]
    rintro e w2 ⟨rfl, hb2⟩
    go_wp2
    go_ret
    exact ⟨rfl, below_then hb1 hb2⟩
  · rw [decide_eq_false he]
    have HE := Lib.hid he
    clear he
    go_enter Tryz.func54, Tryz.ntmps54
    go_wp2_with fail
    refine (pdecode_any a ha _).mono ?_
    rintro e w1 ⟨rfl, hb1⟩
    go_wp2_with fail
    refine (pdecode_any b hb _).mono ?_
    rintro e w2 ⟨rfl, hb2⟩
    go_wp2
    go_ret
    exact ⟨by simp [HE.out], below_then hb1 hb2⟩

end Go.Proofs.YtnecjofgjbfheaaGreatDoor
