/- Encode, the code's and the reference's: each gives the plain one's bytes. -/
import Derived.Test.YtlhdafinfgdlkaaGreatDoorShelf
import Derived.Lib.Strings
import Derived.Test.YtlhdafinfgdlkaaGreatDoorProg
import Derived.Test.YtlhdafinfgdlkaaGreatDoorKit
import Derived.Test.YtlhdafinfgdlkaaGreatDoorInfo
import Derived.Test.YtlhdafinfgdlkaaGreatDoorRow
import Derived.Test.YtlhdafinfgdlkaaGreatDoorTxt0
import Derived.Test.YtlhdafinfgdlkaaGreatDoorPct0
import Derived.Test.YtlhdafinfgdlkaaGreatDoorPct1
import Derived.Test.YtlhdafinfgdlkaaGreatDoorPct2
namespace Go.Proofs.YtlhdafinfgdlkaaGreatDoor
open Go.RowKit Go.Proofs
set_option maxRecDepth 100000

/-- The digits as a string. -/
def hexS16 : ByteArray := ⟨#[48, 49, 50, 51, 52, 53, 54, 55, 56, 57, 65, 66, 67, 68, 69, 70]⟩

theorem hexS16_at : ∀ j : Fin 16, hexS16.data[j.val]'(j.isLt) = hexB j.val := by decide +kernel

theorem run_hexdig {P : Program} {t : TypeId} (ht : P.underlying t = some .string) {q : Nat} (h : q < 16) (k : IntKind) (W : World) :
    (Instr.index t (.string hexS16) (.int k (q : Int))).run P W = .ok (.int .u8 ((hexB q).toNat : Int)) W := by
  have hlt : 0 ≤ (q : Int) ∧ (q : Int) < hexS16.size := ⟨by omega, by show (q : Int) < ((16 : Nat) : Int); omega⟩
  rw [run_index_string W t hexS16 k q ht, dif_pos hlt]
  have h2 := hexS16_at ⟨q, h⟩
  have h3 : hexS16[(q : Int).toNat]'(by rw [Int.toNat_natCast]; exact h) = hexB q := h2
  rw [h3]

theorem cells_enc (k : Int) (s : ByteArray) (i : Nat) (h : i < s.size) (hy : inB k s[i] = true) : (Lib.byteCells (encL k (s.data.toList.take i)) ++ [.int .u8 37]) ++ [.int .u8 ((hexB (s[i].toNat / 16)).toNat : Int)] ++ [.int .u8 ((hexB (s[i].toNat % 16)).toNat : Int)] = Lib.byteCells (encL k (s.data.toList.take (i + 1))) := by
  rw [encL_snoc k s i h, encB_yes hy]
  simp [Lib.byteCells]

theorem cells_raw (k : Int) (s : ByteArray) (i : Nat) (h : i < s.size) (hy : inB k s[i] = false) : Lib.byteCells (encL k (s.data.toList.take i)) ++ [.int .u8 (s[i].toNat : Int)] = Lib.byteCells (encL k (s.data.toList.take (i + 1))) := by
  rw [encL_snoc k s i h, encB_no hy]
  simp [Lib.byteCells]

theorem pencode_any (s : ByteArray) (hs : s.size ≤ 1073741824) (k : Int) (w : World) :
    Calls Tryz.prog 62 #[.string s, .int .i64 k] w fun e w' => e = .returned (.string ⟨(encL k s.data.toList).toArray⟩) ∧ Below w.heap.size w w' := by
  have HB0 := Lib.hid ((Below.refl w.heap.size w).alloc (Nat.le_refl _) (.cells #[.pointer none, .slice none 0 0] 90))
  have HI0 := Lib.hid (Lib.fresh_isBuilder 90 5 w)
  go_enter Tryz.func62, Tryz.ntmps62
  go_wp2
  go_loopw [10] (fun i wr => ∃ n : Nat, n ≤ s.size ∧ i = .int .i64 n ∧ Below w.heap.size w wr ∧ Lib.IsBuilder 90 5 w.heap.size w.heap.size (Lib.byteCells (encL k (s.data.toList.take n))) wr) (fun i _ => s.size - (intOf i).toNat)
  case atStart => exact ⟨0, Nat.zero_le _, rfl, HB0.out, HI0.out⟩
  case round =>
    obtain ⟨n, hn, rfl, hbw, hI⟩ := hrel
    have HBW := Lib.hid hbw
    have HI := Lib.hid hI
    have HL : Hid ((Lib.byteCells (encL k (s.data.toList.take n))).length + 3 ≤ 140737488355328) := Lib.hid (by
      have h1 := encL_len k (s.data.toList.take n)
      have h2 : (s.data.toList.take n).length ≤ n := by rw [List.length_take]; omega
      rw [Lib.byteCells_length]
      omega)
    clear hbw hI
    by_cases hlt : n < s.size
    · cases hy : inB k s[n]
      · have HC := Lib.hid (cells_raw k s n hlt hy)
        have hin := pin_any s[n] k wr
        rw [hy] at hin
        clear hy
        go_wp2_with fail
        refine hin.mono ?_
        rintro e w1 ⟨rfl, rfl⟩
        go_wp2_with fail
        refine (bwrite w.heap.size w.heap.size _ _ _ HI.out (by have := HL.out; omega) HBW.out.size).mono ?_
        rintro e w2 ⟨rfl, hI2, hb2⟩
        have HI2 := Lib.hid hI2
        have HB2 := Lib.hid (HBW.out.trans hb2)
        clear hI2 hb2
        go_wp2
        go_roundw
        case rel => exact ⟨n + 1, by omega, by go_num, HB2.out, .inr (by rw [← HC.out]; exact HI2.out)⟩
        case measure => simp [intOf]; omega
      · have HC := Lib.hid (cells_enc k s n hlt hy)
        have hin := pin_any s[n] k wr
        rw [hy] at hin
        have hx256 := s[n].toNat_lt
        obtain ⟨q, hq⟩ : ∃ q, q = s[n].toNat / 16 := ⟨_, rfl⟩
        obtain ⟨r, hr⟩ : ∃ r, r = s[n].toNat % 16 := ⟨_, rfl⟩
        have e1 : (s[n].toNat : Int) / 16 = (q : Int) := by omega
        have e2 : bits .and .u8 (s[n].toNat : Int) 15 = (r : Int) := by rw [and15, hr]
        have kq := fun W => run_hexdig (P := Tryz.prog) (t := 9) Tryz.underlying9 (show q < 16 by omega) .u8 W
        have kr := fun W => run_hexdig (P := Tryz.prog) (t := 9) Tryz.underlying9 (show r < 16 by omega) .u8 W
        unfold hexS16 at kq kr
        rw [← hq, ← hr] at HC
        clear hy hq hr hx256
        go_wp2_with fail
        refine hin.mono ?_
        rintro e w1 ⟨rfl, rfl⟩
        go_wp2_with fail
        refine (bwrite w.heap.size w.heap.size _ _ _ HI.out (by have := HL.out; omega) HBW.out.size).mono ?_
        rintro e w2 ⟨rfl, hI2, hb2⟩
        have HI2 := Lib.hid hI2
        have HB2 := Lib.hid (HBW.out.trans hb2)
        clear hI2 hb2
        go_wp2_with fail
        refine (bwrite w.heap.size w.heap.size _ _ _ (.inr HI2.out) (by have := HL.out; rw [List.length_append, List.length_singleton]; omega) HB2.out.size).mono ?_
        rintro e w3 ⟨rfl, hI3, hb3⟩
        have HI3 := Lib.hid hI3
        have HB3 := Lib.hid (HB2.out.trans hb3)
        clear hI3 hb3
        go_wp2_with fail
        refine (bwrite w.heap.size w.heap.size _ _ _ (.inr HI3.out) (by have := HL.out; rw [List.length_append, List.length_append, List.length_singleton, List.length_singleton]; omega) HB3.out.size).mono ?_
        rintro e w4 ⟨rfl, hI4, hb4⟩
        have HI4 := Lib.hid hI4
        have HB4 := Lib.hid (HB3.out.trans hb4)
        clear hI4 hb4
        go_wp2
        go_roundw
        case rel => exact ⟨n + 1, by omega, by go_num, HB4.out, .inr (by rw [← HC.out]; exact HI4.out)⟩
        case measure => simp [intOf]; omega
    · have hfull : s.data.toList.take n = s.data.toList := List.take_of_length_le (by rw [size_data]; omega)
      rw [hfull] at HI
      go_wp2_with fail
      refine (Tryz.Builder_String_any w.heap.size w.heap.size _ _ HI.out HBW.out.size).mono ?_
      rintro e w2 ⟨rfl, hb2⟩
      have HB2 := Lib.hid (HBW.out.trans hb2)
      go_wp2
      go_ret
      exact ⟨rfl, HB2.out⟩

theorem map_enc (k : Int) (s : ByteArray) (i : Nat) (h : i < s.size) (hy : inB k s[i] = true) : (encL k (s.data.toList.take i)).map byteV ++ [.int .u8 37, .int .u8 ((hexB (s[i].toNat / 16)).toNat : Int), .int .u8 ((hexB (s[i].toNat % 16)).toNat : Int)] = (encL k (s.data.toList.take (i + 1))).map byteV := by
  rw [encL_snoc k s i h, encB_yes hy, List.map_append]
  rfl

theorem map_raw (k : Int) (s : ByteArray) (i : Nat) (h : i < s.size) (hy : inB k s[i] = false) : (encL k (s.data.toList.take i)).map byteV ++ [.int .u8 (s[i].toNat : Int)] = (encL k (s.data.toList.take (i + 1))).map byteV := by
  rw [encL_snoc k s i h, encB_no hy, List.map_append]
  rfl

theorem three_new (w : World) (x y z : Value) (e : TypeId) : ∀ j u, [x, y, z][j]? = some u → (w.alloc (.cells #[x, y, z] e)).cell? ((⟨w.heap.size, 0, none⟩ : Addr).add j) = some u := by
  intro j u hj
  match j, hj with
  | 0, hj => simp at hj; subst hj; simp [Addr.add]
  | 1, hj => simp at hj; subst hj; simp [Addr.add]
  | 2, hj => simp at hj; subst hj; simp [Addr.add]

theorem three_one (x y z : Int) : ∀ u ∈ [Value.int .u8 x, Value.int .u8 y, Value.int .u8 z], u.oneCell' = true := by
  intro u hu
  simp at hu
  rcases hu with rfl | rfl | rfl <;> rfl

set_option maxHeartbeats 1000000 in
theorem ref_encode_any (s : ByteArray) (hs : s.size ≤ 1073741824) (k : Int) (w : World) :
    Calls Tryz.prog 35 #[.string s, .int .i64 k] w fun e w' => e = .returned (.string ⟨(encL k s.data.toList).toArray⟩) ∧ Below w.heap.size w w' := by
  obtain ⟨i0, hi, hz0, hz1, hz2⟩ := info_parts Tryz.infoByte
  go_enter Tryz.func35, Tryz.ntmps35
  go_wp2
  go_loopw [6, 7] (fun v i wr => ∃ (n M : Nat) (a : Option Addr) (c : Nat), v = .slice a M c ∧ i = .int .i64 n ∧ n ≤ s.size ∧ Hid (M = (encL k (s.data.toList.take n)).length) ∧ Hid (wr.ownsRow w.heap.size 5 1 (.slice a M c) M ((encL k (s.data.toList.take n)).map byteV)) ∧ Hid (Below w.heap.size w wr)) (fun _ i _ => s.size - (intOf i).toNat)
  case atStart => exact ⟨0, 0, none, 0, rfl, rfl, Nat.zero_le _, Lib.hid rfl, Lib.hid ⟨rfl, .inl ⟨rfl, rfl⟩⟩, Lib.hid (Below.refl _ _)⟩
  case round =>
    obtain ⟨n, M, a, c, rfl, rfl, hn, HM, HO, HB⟩ := hrel
    have HMB : Hid (M + 3 < 1099511627776) := Lib.hid (by
      have h1 := encL_len k (s.data.toList.take n)
      have h2 : (s.data.toList.take n).length ≤ n := by rw [List.length_take]; omega
      have := HM.out
      omega)
    by_cases hlt : n < s.size
    · cases hy : inB k s[n]
      · have HC := Lib.hid (map_raw k s n hlt hy)
        have HLN : Hid ((encL k (s.data.toList.take (n + 1))).length = M + 1) := Lib.hid (by rw [encL_snoc k s n hlt, encB_no hy, List.length_append, ← HM.out]; rfl)
        have hin := ref_in_any s[n] k wr
        rw [hy] at hin
        clear hy
        go_wp2_with fail
        refine hin.mono ?_
        rintro e w1 ⟨rfl, rfl⟩
        have hsz := HB.out.size
        have hown := HO.out
        have hmb := HMB.out
        go_wp2_with (at_builtin; refine wpList_append1 rfl _ _ 37 rfl w.heap.size 5 rfl i0 (.int .u8 0) 1 Tryz.underlying37 hi hz0 hz1 hz2 rfl _ M _ rfl hown rfl rfl (by omega) (by omega) hsz ?_; intro v' w' hown' hb')
        obtain ⟨a2, c2, rfl⟩ := own_len hown'
        have HB2 : Hid (Below w.heap.size w w') := Lib.hid (HB.out.trans hb')
        have HO2 := Lib.hid hown'
        clear hb' hown' hown hsz hmb
        go_wp2_with fail
        go_roundw
        case rel =>
          refine ⟨n + 1, M + 1, a2, c2, rfl, by go_num, by omega, Lib.hid HLN.out.symm, Lib.hid ?_, HB2⟩
          rw [← HC.out]
          exact HO2.out
        case measure => simp [intOf]; omega
      · have HC := Lib.hid (map_enc k s n hlt hy)
        have HLN : Hid ((encL k (s.data.toList.take (n + 1))).length = M + 3) := Lib.hid (by rw [encL_snoc k s n hlt, encB_yes hy, List.length_append, ← HM.out]; rfl)
        have hin := ref_in_any s[n] k wr
        rw [hy] at hin
        have hx256 := s[n].toNat_lt
        obtain ⟨q, hq⟩ : ∃ q, q = s[n].toNat / 16 := ⟨_, rfl⟩
        obtain ⟨r, hr⟩ : ∃ r, r = s[n].toNat % 16 := ⟨_, rfl⟩
        have e1 : (s[n].toNat : Int) / 16 = (q : Int) := by omega
        have e2 : bits .and .u8 (s[n].toNat : Int) 15 = (r : Int) := by rw [and15, hr]
        have kq := fun W => run_hexdig (P := Tryz.prog) (t := 9) Tryz.underlying9 (show q < 16 by omega) .u8 W
        have kr := fun W => run_hexdig (P := Tryz.prog) (t := 9) Tryz.underlying9 (show r < 16 by omega) .u8 W
        unfold hexS16 at kq kr
        rw [← hq, ← hr] at HC
        obtain ⟨dq, hdq⟩ : ∃ dq, dq = hexB q := ⟨_, rfl⟩
        obtain ⟨dr, hdr⟩ : ∃ dr, dr = hexB r := ⟨_, rfl⟩
        rw [← hdq] at kq HC
        rw [← hdr] at kr HC
        clear hy hq hr hx256 hdq hdr
        go_wp2_with fail
        refine hin.mono ?_
        rintro e w1 ⟨rfl, rfl⟩
        go_wp2_with fail
        go_region_law (refine step_append_own1 rfl (.tmp 19) (.tmp 32) 37 rfl w.heap.size 5 i0 (.int .u8 0) Tryz.underlying37 hi hz0 hz1 hz2 rfl (.slice a M c) M _ rfl (HO.out.alloc (.cells #[.int .u8 37, .int .u8 (dq.toNat : Int), .int .u8 (dr.toNat : Int)] 5)) ⟨w1.heap.size, 0, none⟩ 3 3 [.int .u8 37, .int .u8 (dq.toNat : Int), .int .u8 (dr.toNat : Int)] rfl rfl (three_new w1 _ _ _ _) (three_one _ _ _) HMB.out (Nat.le_trans HB.out.size (by simp)) ?_; intro v2 w2 hown2 hb2)
        all_goals
          obtain ⟨a2, c2, rfl⟩ := own_len hown2.out
          have HB2 : Hid (Below w.heap.size w w2) := Lib.hid (by
            first
              | exact (HB.out.alloc HB.out.size _).trans hb2.out
              | exact (below_draws (HB.out.alloc HB.out.size _) ⟨1, rfl⟩).trans hb2.out)
          clear hb2 kq kr e1 e2
          go_wp2_with fail
          go_roundw
          case rel =>
            refine ⟨n + 1, M + 3, a2, c2, rfl, by go_num, by omega, Lib.hid HLN.out.symm, Lib.hid ?_, HB2⟩
            rw [← HC.out]
            exact hown2.out
          case measure => simp [intOf]; omega
    · have hkn : s.data.toList.take n = s.data.toList := List.take_of_length_le (by rw [size_data]; omega)
      have ho := HO.out
      rw [hkn] at ho
      have kc := run_convert_own (P := Tryz.prog) 37 5 9 Tryz.underlying37 Tryz.underlying5 Tryz.underlying9 ho
      clear hkn ho HO HM
      go_wp2
      go_ret
      exact ⟨rfl, HB.out⟩

end Go.Proofs.YtlhdafinfgdlkaaGreatDoor
