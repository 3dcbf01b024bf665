/- The reference's Address and IsAddress, Host, Domain; the code's Address, Parse, Domain; what the document fixes (awake). -/
import Derived.Test.YtlhdafinfgdlkaaGreatDoorShelf
import Derived.Lib.Strings
import Derived.BigQuiet
import Derived.Test.YtlhdafinfgdlkaaGreatDoorProg
import Derived.Test.YtlhdafinfgdlkaaGreatDoorKit
import Derived.Test.YtlhdafinfgdlkaaGreatDoorAsc8
import Derived.Test.YtlhdafinfgdlkaaGreatDoorRow
import Derived.Test.YtlhdafinfgdlkaaGreatDoorU32
import Derived.Test.YtlhdafinfgdlkaaGreatDoorHst0
import Derived.Test.YtlhdafinfgdlkaaGreatDoorHst1
namespace Go.Proofs.YtlhdafinfgdlkaaGreatDoor
open Go.RowKit Go.Proofs
set_option maxRecDepth 100000

theorem and255 (a : Nat) (ha : a < 4294967296) : bits .and .u32 (a : Int) 255 = ((a % 256 : Nat) : Int) := by
  have h := iw_and (UInt32.ofNat a) 255
  unfold iw at h
  rw [UInt32.toNat_and, UInt32.toNat_ofNat_of_lt' ha] at h
  have e : (UInt32.toNat 255) = 2 ^ 8 - 1 := rfl
  rw [e, Nat.and_two_pow_sub_one_eq_mod] at h
  exact h

def preA (n : Nat) (q : Int) : List UInt8 :=
  if q = 3 then [] else if q = 2 then Lib.itoa (n / 16777216 % 256 : Nat) ++ [46]
  else if q = 1 then Lib.itoa (n / 16777216 % 256 : Nat) ++ 46 :: (Lib.itoa (n / 65536 % 256 : Nat) ++ [46])
  else if q = 0 then Lib.itoa (n / 16777216 % 256 : Nat) ++ 46 :: (Lib.itoa (n / 65536 % 256 : Nat) ++ 46 :: (Lib.itoa (n / 256 % 256 : Nat) ++ [46])) else textL n

theorem mk_app (a b : ByteArray) : (a ++ b).data.toList = a.data.toList ++ b.data.toList := by simp [ByteArray.data_append]

theorem sz_next (t y : ByteArray) {q : Int} (h : t.size ≤ 5 * (3 - q).toNat) (hy : y.size ≤ 3) (hq : q ≤ 3) : (t ++ y ++ (⟨#[46]⟩ : ByteArray)).size ≤ 5 * (3 - (q - 1)).toNat := by
  rw [ByteArray.size_append, ByteArray.size_append]
  have : (⟨#[46]⟩ : ByteArray).size = 1 := rfl
  omega

theorem sz_step (t y : ByteArray) {q : Int} (h : t.size ≤ 5 * (3 - q).toNat) (hy : y.size ≤ 3) (hq : q ≤ 3 ∧ 0 ≤ q) : (t ++ y ++ (⟨#[46]⟩ : ByteArray)).size ≤ 60 := by
  have := sz_next t y h hy hq.1
  omega

theorem sz_end (t y : ByteArray) {q : Int} (h : t.size ≤ 5 * (3 - q).toNat) (hy : y.size ≤ 3) (hq : q ≤ 3) : (t ++ y).size ≤ 5 * (3 - (q - 1)).toNat := by
  rw [ByteArray.size_append]
  omega

theorem sz_end1 (t y : ByteArray) {q : Int} (h : t.size ≤ 5 * (3 - q).toNat) (hy : y.size ≤ 3) (hq : q ≤ 3 ∧ 0 ≤ q) : (t ++ y).size ≤ 60 := by
  have := sz_end t y h hy hq.1
  omega

theorem itoa_le (d : Int) (h : 0 ≤ d ∧ d ≤ 255) : (Lib.itoa d).length ≤ 3 := by
  have := itoa_len ⟨d.toNat, by omega⟩
  simp only at this
  rw [show ((d.toNat : Nat) : Int) = d from by omega] at this
  exact this

set_option maxHeartbeats 1000000 in
theorem raddr_any (n : Nat) (hn : n < 4294967296) (w : World) :
    Calls Tryz.prog 103 #[.int .u32 (n : Int)] w fun e w' => e = .returned (.string ⟨(textL n).toArray⟩) ∧ Below w.heap.size w w' := by
  obtain ⟨z, hz⟩ : ∃ z : Int, z = (n : Int) := ⟨_, rfl⟩
  have hz0 : 0 ≤ z ∧ z < 4294967296 := by omega
  have a3 : bits .and .u32 (z / 16777216) 255 = ((n / 16777216 % 256 : Nat) : Int) := by
    have := and255 (n / 16777216) (by omega)
    rw [← this, hz]
    congr 1
  have a2 : bits .and .u32 (z / 65536) 255 = ((n / 65536 % 256 : Nat) : Int) := by
    have := and255 (n / 65536) (by omega)
    rw [← this, hz]
    congr 1
  have a1 : bits .and .u32 (z / 256) 255 = ((n / 256 % 256 : Nat) : Int) := by
    have := and255 (n / 256) (by omega)
    rw [← this, hz]
    congr 1
  have a0 : bits .and .u32 z 255 = ((n % 256 : Nat) : Int) := by
    rw [hz]
    exact and255 n hn
  obtain ⟨d3, h3⟩ : ∃ d : Int, d = ((n / 16777216 % 256 : Nat) : Int) := ⟨_, rfl⟩
  obtain ⟨d2, h2⟩ : ∃ d : Int, d = ((n / 65536 % 256 : Nat) : Int) := ⟨_, rfl⟩
  obtain ⟨d1, h1⟩ : ∃ d : Int, d = ((n / 256 % 256 : Nat) : Int) := ⟨_, rfl⟩
  obtain ⟨d0, h0⟩ : ∃ d : Int, d = ((n % 256 : Nat) : Int) := ⟨_, rfl⟩
  rw [← h3] at a3
  rw [← h2] at a2
  rw [← h1] at a1
  rw [← h0] at a0
  have q3 : 0 ≤ d3 ∧ d3 ≤ 255 := by omega
  have q2 : 0 ≤ d2 ∧ d2 ≤ 255 := by omega
  have q1 : 0 ≤ d1 ∧ d1 ≤ 255 := by omega
  have q0 : 0 ≤ d0 ∧ d0 ≤ 255 := by omega
  have S3 := itoa_le d3 q3
  have S2 := itoa_le d2 q2
  have S1 := itoa_le d1 q1
  have S0 := itoa_le d0 q0
  have P3 : Hid (preA n 2 = Lib.itoa d3 ++ [46]) := Lib.hid (by rw [h3]; rfl)
  have P2 : Hid (preA n 1 = preA n 2 ++ (Lib.itoa d2 ++ [46])) := Lib.hid (by rw [h2]; simp [preA])
  have P1 : Hid (preA n 0 = preA n 1 ++ (Lib.itoa d1 ++ [46])) := Lib.hid (by rw [h1]; simp [preA])
  have P0 : Hid (textL n = preA n 0 ++ Lib.itoa d0) := Lib.hid (by rw [h0]; simp [preA, textL, fourL, joinD])
  rw [← hz]
  clear h3 h2 h1 h0 hz hn
  go_enter Tryz.func103, Tryz.ntmps103
  go_wp2
  go_loopw [3, 4] (fun sv i wr => ∃ (t : ByteArray) (q : Int), sv = .string t ∧ i = .int .i64 q ∧ (q = 3 ∨ q = 2 ∨ q = 1 ∨ q = 0 ∨ q = -1) ∧ t.size ≤ 60 ∧ Hid (t.size ≤ 5 * (3 - q).toNat) ∧ Hid (t.data.toList = if q = -1 then textL n else preA n q) ∧ Hid (Below w.heap.size w wr)) (fun _ i _ => (intOf i + 1).toNat)
  case atStart => exact ⟨⟨#[]⟩, 3, rfl, rfl, .inl rfl, by decide, Lib.hid (by decide), Lib.hid rfl, Lib.hid (Below.refl _ _)⟩
  case round =>
    obtain ⟨t, q, rfl, rfl, hq, hts, HTS, HT, HB⟩ := hrel
    rcases hq with rfl | rfl | rfl | rfl | rfl
    · obtain ⟨y, hy⟩ : ∃ y : ByteArray, y = ⟨(Lib.itoa d3).toArray⟩ := ⟨_, rfl⟩
      have hys : y.size ≤ 3 := by rw [hy, mk_size]; exact S3
      have hty : t.size + y.size ≤ 63 := by omega
      have HY : Hid (y.data.toList = Lib.itoa d3) := Lib.hid (by rw [hy])
      have HTZ := Lib.hid hts
      have HYZ := Lib.hid hys
      go_wp2_with fail
      refine (ref_decimal_any d3 (by omega) _).mono ?_
      rw [← hy]
      clear hy
      rintro e w1 ⟨rfl, hb1⟩
      have HB1 := Lib.hid (below_then HB.out hb1)
      clear hb1
      go_wp2
      go_roundw
      case rel => exact ⟨_, 2, rfl, rfl, .inr (.inl rfl), sz_step _ _ HTS.out HYZ.out (by decide), Lib.hid (sz_next _ _ HTS.out HYZ.out (by decide)), Lib.hid (by rw [mk_app, mk_app, HY.out, HT.out, if_neg (by decide), if_neg (by decide), P3.out]; rfl), HB1⟩
      case measure => simp [intOf]
    · obtain ⟨y, hy⟩ : ∃ y : ByteArray, y = ⟨(Lib.itoa d2).toArray⟩ := ⟨_, rfl⟩
      have hys : y.size ≤ 3 := by rw [hy, mk_size]; exact S2
      have hty : t.size + y.size ≤ 63 := by omega
      have HY : Hid (y.data.toList = Lib.itoa d2) := Lib.hid (by rw [hy])
      have HTZ := Lib.hid hts
      have HYZ := Lib.hid hys
      go_wp2_with fail
      refine (ref_decimal_any d2 (by omega) _).mono ?_
      rw [← hy]
      clear hy
      rintro e w1 ⟨rfl, hb1⟩
      have HB1 := Lib.hid (below_then HB.out hb1)
      clear hb1
      go_wp2
      go_roundw
      case rel => exact ⟨_, 1, rfl, rfl, .inr (.inr (.inl rfl)), sz_step _ _ HTS.out HYZ.out (by decide), Lib.hid (sz_next _ _ HTS.out HYZ.out (by decide)), Lib.hid (by rw [mk_app, mk_app, HY.out, HT.out, if_neg (by decide), if_neg (by decide), P2.out, List.append_assoc]), HB1⟩
      case measure => simp [intOf]
    · obtain ⟨y, hy⟩ : ∃ y : ByteArray, y = ⟨(Lib.itoa d1).toArray⟩ := ⟨_, rfl⟩
      have hys : y.size ≤ 3 := by rw [hy, mk_size]; exact S1
      have hty : t.size + y.size ≤ 63 := by omega
      have HY : Hid (y.data.toList = Lib.itoa d1) := Lib.hid (by rw [hy])
      have HTZ := Lib.hid hts
      have HYZ := Lib.hid hys
      go_wp2_with fail
      refine (ref_decimal_any d1 (by omega) _).mono ?_
      rw [← hy]
      clear hy
      rintro e w1 ⟨rfl, hb1⟩
      have HB1 := Lib.hid (below_then HB.out hb1)
      clear hb1
      go_wp2
      go_roundw
      case rel => exact ⟨_, 0, rfl, rfl, .inr (.inr (.inr (.inl rfl))), sz_step _ _ HTS.out HYZ.out (by decide), Lib.hid (sz_next _ _ HTS.out HYZ.out (by decide)), Lib.hid (by rw [mk_app, mk_app, HY.out, HT.out, if_neg (by decide), if_neg (by decide), P1.out, List.append_assoc]), HB1⟩
      case measure => simp [intOf]
    · obtain ⟨y, hy⟩ : ∃ y : ByteArray, y = ⟨(Lib.itoa d0).toArray⟩ := ⟨_, rfl⟩
      have hys : y.size ≤ 3 := by rw [hy, mk_size]; exact S0
      have hty : t.size + y.size ≤ 63 := by omega
      have HY : Hid (y.data.toList = Lib.itoa d0) := Lib.hid (by rw [hy])
      have HTZ := Lib.hid hts
      have HYZ := Lib.hid hys
      go_wp2_with fail
      refine (ref_decimal_any d0 (by omega) _).mono ?_
      rw [← hy]
      clear hy
      rintro e w1 ⟨rfl, hb1⟩
      have HB1 := Lib.hid (below_then HB.out hb1)
      clear hb1
      go_wp2
      go_roundw
      case rel => exact ⟨_, -1, rfl, rfl, .inr (.inr (.inr (.inr rfl))), sz_end1 _ _ HTS.out HYZ.out (by decide), Lib.hid (sz_end _ _ HTS.out HYZ.out (by decide)), Lib.hid (by rw [mk_app, HY.out, HT.out, if_neg (by decide), if_pos rfl, P0.out]), HB1⟩
      case measure => simp [intOf]
    · have HE : Hid (t = ⟨(textL n).toArray⟩) := Lib.hid (mk_list t (by rw [HT.out, if_pos rfl]))
      go_wp2
      go_ret
      exact ⟨ret_str HE.out, HB.out⟩

end Go.Proofs.YtlhdafinfgdlkaaGreatDoor
