/- The reference's Address and IsAddress, Host, Domain; the code's Address, Parse, Domain; what the document fixes (awake). -/
import Derived.Test.YtnecjofgjbfheaaGreatDoorShelf
import Derived.Lib.Strings
import Derived.BigQuiet
import Derived.Test.YtnecjofgjbfheaaGreatDoorProg
import Derived.Test.YtnecjofgjbfheaaGreatDoorKit
import Derived.Test.YtnecjofgjbfheaaGreatDoorPlain
import Derived.Test.YtnecjofgjbfheaaGreatDoorStr
import Derived.Test.YtnecjofgjbfheaaGreatDoorAsc1
import Derived.Test.YtnecjofgjbfheaaGreatDoorAsc4
import Derived.Test.YtnecjofgjbfheaaGreatDoorRow
import Derived.Test.YtnecjofgjbfheaaGreatDoorU32
import Derived.Test.YtnecjofgjbfheaaGreatDoorPct0
import Derived.Test.YtnecjofgjbfheaaGreatDoorPct3
import Derived.Test.YtnecjofgjbfheaaGreatDoorHst0
import Derived.Test.YtnecjofgjbfheaaGreatDoorHst1
import Derived.Test.YtnecjofgjbfheaaGreatDoorHst4
namespace Go.Proofs.YtnecjofgjbfheaaGreatDoor
open Go.RowKit Go.Proofs
set_option maxRecDepth 100000

theorem and255 (a : Nat) (ha : a < 4294967296) : bits .and .u32 (a : Int) 255 = ((a % 256 : Nat) : Int) := by
  have h := iw_and (UInt32.ofNat a) 255
  unfold iw at h
  rw [UInt32.toNat_and, UInt32.toNat_ofNat_of_lt' ha] at h
  have e : (UInt32.toNat 255) = 2 ^ 8 - 1 := rfl
  rw [e, Nat.and_two_pow_sub_one_eq_mod] at h
  exact h

def preA (n : Nat) (q : Int) : List UInt8 :=
  if q = 3 then [] else if q = 2 then Lib.itoa (n / 16777216 % 256 : Nat) ++ [46]
  else if q = 1 then Lib.itoa (n / 16777216 % 256 : Nat) ++ 46 :: (Lib.itoa (n / 65536 % 256 : Nat) ++ [46])
  else if q = 0 then Lib.itoa (n / 16777216 % 256 : Nat) ++ 46 :: (Lib.itoa (n / 65536 % 256 : Nat) ++ 46 :: (Lib.itoa (n / 256 % 256 : Nat) ++ [46])) else textL n

theorem mk_app (a b : ByteArray) : (a ++ b).data.toList = a.data.toList ++ b.data.toList := by simp [ByteArray.data_append]

theorem sz_next (t y : ByteArray) {q : Int} (h : t.size ≤ 5 * (3 - q).toNat) (hy : y.size ≤ 3) (hq : q ≤ 3) : (t ++ y ++ (⟨#[46]⟩ : ByteArray)).size ≤ 5 * (3 - (q - 1)).toNat := by
  rw [ByteArray.size_append, ByteArray.size_append]
  have : (⟨#[46]⟩ : ByteArray).size = 1 := rfl
  omega

theorem sz_step (t y : ByteArray) {q : Int} (h : t.size ≤ 5 * (3 - q).toNat) (hy : y.size ≤ 3) (hq : q ≤ 3 ∧ 0 ≤ q) : (t ++ y ++ (⟨#[46]⟩ : ByteArray)).size ≤ 60 := by
  have := sz_next t y h hy hq.1
  omega

theorem sz_end (t y : ByteArray) {q : Int} (h : t.size ≤ 5 * (3 - q).toNat) (hy : y.size ≤ 3) (hq : q ≤ 3) : (t ++ y).size ≤ 5 * (3 - (q - 1)).toNat := by
  rw [ByteArray.size_append]
  omega

theorem sz_end1 (t y : ByteArray) {q : Int} (h : t.size ≤ 5 * (3 - q).toNat) (hy : y.size ≤ 3) (hq : q ≤ 3 ∧ 0 ≤ q) : (t ++ y).size ≤ 60 := by
  have := sz_end t y h hy hq.1
  omega

theorem itoa_le (d : Int) (h : 0 ≤ d ∧ d ≤ 255) : (Lib.itoa d).length ≤ 3 := by
  have := itoa_len ⟨d.toNat, by omega⟩
  simp only at this
  rw [show ((d.toNat : Nat) : Int) = d from by omega] at this
  exact this

set_option maxHeartbeats 1000000 in
theorem raddr_any (n : Nat) (hn : n < 4294967296) (w : World) :
    Calls Tryz.prog 91 #[.int .u32 (n : Int)] w fun e w' => e = .returned (.string ⟨(textL n).toArray⟩) ∧ Below w.heap.size w w' := by
  obtain ⟨z, hz⟩ : ∃ z : Int, z = (n : Int) := ⟨_, rfl⟩
  have hz0 : 0 ≤ z ∧ z < 4294967296 := by omega
  have a3 : bits .and .u32 (z / 16777216) 255 = ((n / 16777216 % 256 : Nat) : Int) := by
    have := and255 (n / 16777216) (by omega)
    rw [← this, hz]
    congr 1
  have a2 : bits .and .u32 (z / 65536) 255 = ((n / 65536 % 256 : Nat) : Int) := by
    have := and255 (n / 65536) (by omega)
    rw [← this, hz]
    congr 1
  have a1 : bits .and .u32 (z / 256) 255 = ((n / 256 % 256 : Nat) : Int) := by
    have := and255 (n / 256) (by omega)
    rw [← this, hz]
    congr 1
  have a0 : bits .and .u32 z 255 = ((n % 256 : Nat) : Int) := by
    rw [hz]
    exact and255 n hn
  obtain ⟨d3, h3⟩ : ∃ d : Int, d = ((n / 16777216 % 256 : Nat) : Int) := ⟨_, rfl⟩
  obtain ⟨d2, h2⟩ : ∃ d : Int, d = ((n / 65536 % 256 : Nat) : Int) := ⟨_, rfl⟩
  obtain ⟨d1, h1⟩ : ∃ d : Int, d = ((n / 256 % 256 : Nat) : Int) := ⟨_, rfl⟩
  obtain ⟨d0, h0⟩ : ∃ d : Int, d = ((n % 256 : Nat) : Int) := ⟨_, rfl⟩
  rw [← h3] at a3
  rw [← h2] at a2
  rw [← h1] at a1
  rw [← h0] at a0
  have q3 : 0 ≤ d3 ∧ d3 ≤ 255 := by omega
  have q2 : 0 ≤ d2 ∧ d2 ≤ 255 := by omega
  have q1 : 0 ≤ d1 ∧ d1 ≤ 255 := by omega
  have q0 : 0 ≤ d0 ∧ d0 ≤ 255 := by omega
  have S3 := itoa_le d3 q3
  have S2 := itoa_le d2 q2
  have S1 := itoa_le d1 q1
  have S0 := itoa_le d0 q0
  have P3 : Hid (preA n 2 = Lib.itoa d3 ++ [46]) := Lib.hid (by rw [h3]; rfl)
  have P2 : Hid (preA n 1 = preA n 2 ++ (Lib.itoa d2 ++ [46])) := Lib.hid (by rw [h2]; simp [preA])
  have P1 : Hid (preA n 0 = preA n 1 ++ (Lib.itoa d1 ++ [46])) := Lib.hid (by rw [h1]; simp [preA])
  have P0 : Hid (textL n = preA n 0 ++ Lib.itoa d0) := Lib.hid (by rw [h0]; simp [preA, textL, fourL, joinD])
  rw [← hz]
  clear h3 h2 h1 h0 hz hn
  go_enter Tryz.func91, Tryz.ntmps91
  go_wp2
  go_loopw [3, 4] (fun sv i wr => ∃ (t : ByteArray) (q : Int), sv = .string t ∧ i = .int .i64 q ∧ (q = 3 ∨ q = 2 ∨ q = 1 ∨ q = 0 ∨ q = -1) ∧ t.size ≤ 60 ∧ Hid (t.size ≤ 5 * (3 - q).toNat) ∧ Hid (t.data.toList = if q = -1 then textL n else preA n q) ∧ Hid (Below w.heap.size w wr)) (fun _ i _ => (intOf i + 1).toNat)
  case atStart => exact ⟨⟨#[]⟩, 3, rfl, rfl, .inl rfl, by decide, Lib.hid (by decide), Lib.hid rfl, Lib.hid (Below.refl _ _)⟩
  case round =>
    obtain ⟨t, q, rfl, rfl, hq, hts, HTS, HT, HB⟩ := hrel
    rcases hq with rfl | rfl | rfl | rfl | rfl
    · obtain ⟨y, hy⟩ : ∃ y : ByteArray, y = ⟨(Lib.itoa d3).toArray⟩ := ⟨_, rfl⟩
      have hys : y.size ≤ 3 := by rw [hy, mk_size]; exact S3
      have hty : t.size + y.size ≤ 63 := by omega
      have HY : Hid (y.data.toList = Lib.itoa d3) := Lib.hid (by rw [hy])
      have HTZ := Lib.hid hts
      have HYZ := Lib.hid hys
      go_wp2_with fail
      refine (ref_decimal_any d3 (by omega) _).mono ?_
      rw [← hy]
      clear hy
      rintro e w1 ⟨rfl, hb1⟩
      have HB1 := Lib.hid (below_then HB.out hb1)
      clear hb1
      go_wp2
      go_roundw
      case rel => exact ⟨_, 2, rfl, rfl, .inr (.inl rfl), sz_step _ _ HTS.out HYZ.out (by decide), Lib.hid (sz_next _ _ HTS.out HYZ.out (by decide)), Lib.hid (by rw [mk_app, mk_app, HY.out, HT.out, if_neg (by decide), if_neg (by decide), P3.out]; rfl), HB1⟩
      case measure => simp [intOf]
    · obtain ⟨y, hy⟩ : ∃ y : ByteArray, y = ⟨(Lib.itoa d2).toArray⟩ := ⟨_, rfl⟩
      have hys : y.size ≤ 3 := by rw [hy, mk_size]; exact S2
      have hty : t.size + y.size ≤ 63 := by omega
      have HY : Hid (y.data.toList = Lib.itoa d2) := Lib.hid (by rw [hy])
      have HTZ := Lib.hid hts
      have HYZ := Lib.hid hys
      go_wp2_with fail
      refine (ref_decimal_any d2 (by omega) _).mono ?_
      rw [← hy]
      clear hy
      rintro e w1 ⟨rfl, hb1⟩
      have HB1 := Lib.hid (below_then HB.out hb1)
      clear hb1
      go_wp2
      go_roundw
      case rel => exact ⟨_, 1, rfl, rfl, .inr (.inr (.inl rfl)), sz_step _ _ HTS.out HYZ.out (by decide), Lib.hid (sz_next _ _ HTS.out HYZ.out (by decide)), Lib.hid (by rw [mk_app, mk_app, HY.out, HT.out, if_neg (by decide), if_neg (by decide), P2.out, List.append_assoc]), HB1⟩
      case measure => simp [intOf]
    · obtain ⟨y, hy⟩ : ∃ y : ByteArray, y = ⟨(Lib.itoa d1).toArray⟩ := ⟨_, rfl⟩
      have hys : y.size ≤ 3 := by rw [hy, mk_size]; exact S1
      have hty : t.size + y.size ≤ 63 := by omega
      have HY : Hid (y.data.toList = Lib.itoa d1) := Lib.hid (by rw [hy])
      have HTZ := Lib.hid hts
      have HYZ := Lib.hid hys
      go_wp2_with fail
      refine (ref_decimal_any d1 (by omega) _).mono ?_
      rw [← hy]
      clear hy
      rintro e w1 ⟨rfl, hb1⟩
      have HB1 := Lib.hid (below_then HB.out hb1)
      clear hb1
      go_wp2
      go_roundw
      case rel => exact ⟨_, 0, rfl, rfl, .inr (.inr (.inr (.inl rfl))), sz_step _ _ HTS.out HYZ.out (by decide), Lib.hid (sz_next _ _ HTS.out HYZ.out (by decide)), Lib.hid (by rw [mk_app, mk_app, HY.out, HT.out, if_neg (by decide), if_neg (by decide), P1.out, List.append_assoc]), HB1⟩
      case measure => simp [intOf]
    · obtain ⟨y, hy⟩ : ∃ y : ByteArray, y = ⟨(Lib.itoa d0).toArray⟩ := ⟨_, rfl⟩
      have hys : y.size ≤ 3 := by rw [hy, mk_size]; exact S0
      have hty : t.size + y.size ≤ 63 := by omega
      have HY : Hid (y.data.toList = Lib.itoa d0) := Lib.hid (by rw [hy])
      have HTZ := Lib.hid hts
      have HYZ := Lib.hid hys
      go_wp2_with fail
      refine (ref_decimal_any d0 (by omega) _).mono ?_
      rw [← hy]
      clear hy
      rintro e w1 ⟨rfl, hb1⟩
      have HB1 := Lib.hid (below_then HB.out hb1)
      clear hb1
      go_wp2
      go_roundw
      case rel => exact ⟨_, -1, rfl, rfl, .inr (.inr (.inr (.inr rfl))), sz_end1 _ _ HTS.out HYZ.out (by decide), Lib.hid (sz_end _ _ HTS.out HYZ.out (by decide)), Lib.hid (by rw [mk_app, HY.out, HT.out, if_neg (by decide), if_pos rfl, P0.out]), HB1⟩
      case measure => simp [intOf]
    · have HE : Hid (t = ⟨(textL n).toArray⟩) := Lib.hid (mk_list t (by rw [HT.out, if_pos rfl]))
      go_wp2
      go_ret
      exact ⟨ret_str HE.out, HB.out⟩

theorem haddress_any (h : ByteArray) (hs : h.size ≤ 1073741824) (w : World) (hT : Tab10 w) :
    Calls Tryz.prog 48 #[.string h] w fun e w' => e = .returned (.tuple #[.int .u32 ((optN (addressP h.data.toList) : Nat) : Int), .bool (addressP h.data.toList).isSome]) ∧ Below w.heap.size w w' := by
  have HN := Lib.hid (hnumber_any h hs w)
  have HT := Lib.hid hT
  clear hT
  have hA : addressP h.data.toList = (match numberP h.data.toList with | none => none | some a => if textL a = h.data.toList then some a else none) := rfl
  have hlt := fun n (hn : numberP h.data.toList = some n) => addrP_lt (l := partsL h.data.toList) hn
  cases hO : numberP h.data.toList with
  | none =>
    rw [hO] at HN hA
    rw [hA]
    have HN2 : Hid (Calls Tryz.prog 86 #[.string h] w fun e w' => e = .returned (.tuple #[.int .u32 0, .bool false]) ∧ Below w.heap.size w w') := HN
    clear HN hA hO hlt
    go_enter Tryz.func48, Tryz.ntmps48
    go_wp2_with fail
    refine HN2.out.mono ?_
    rintro e w1 ⟨rfl, hb1⟩
    go_wp2
    go_ret2
    exact ⟨rfl, hb1⟩
  | some n =>
    have hn32 := hlt n hO
    rw [hO] at HN hA
    obtain ⟨z, hz⟩ : ∃ z : Int, z = (n : Int) := ⟨_, rfl⟩
    have HN2 : Hid (Calls Tryz.prog 86 #[.string h] w fun e w' => e = .returned (.tuple #[.int .u32 z, .bool true]) ∧ Below w.heap.size w w') := Lib.hid (by rw [hz]; exact HN.out)
    obtain ⟨tt, htt⟩ : ∃ tt : ByteArray, tt = ⟨(textL n).toArray⟩ := ⟨_, rfl⟩
    have htl : tt.data.toList = textL n := by rw [htt]
    have HZ := Lib.hid hz
    have HTT := Lib.hid htt
    simp only at hA
    by_cases he : textL n = h.data.toList
    · rw [if_pos he] at hA
      have hq : (tt.toList == h.toList) = true := by rw [ByteArray.toList_eq, ByteArray.toList_eq, htl, he, beq_iff_eq]
      rw [hA]
      clear HN hA hO hlt hz htt htl he
      go_enter Tryz.func48, Tryz.ntmps48
      go_wp2_with fail
      refine HN2.out.mono ?_
      rintro e w1 ⟨rfl, hb1⟩
      have HB1 := Lib.hid hb1
      clear hb1
      rw [HZ.out]
      go_wp2_with fail
      refine (htext_any n hn32 _ (tab10_below HT.out HB1.out)).mono ?_
      rw [← HTT.out, ← HZ.out]
      rintro e w2 ⟨rfl, hb2⟩
      have HB2 := Lib.hid (below_then HB1.out hb2)
      clear hb2
      go_wp2
      go_ret2
      exact ⟨by rw [HZ.out]; rfl, HB2.out⟩
    · rw [if_neg he] at hA
      have hq : (tt.toList == h.toList) = false := by rw [ByteArray.toList_eq, ByteArray.toList_eq, htl, beq_eq_false_iff_ne]; exact he
      rw [hA]
      clear HN hA hO hlt hz htt htl he
      go_enter Tryz.func48, Tryz.ntmps48
      go_wp2_with fail
      refine HN2.out.mono ?_
      rintro e w1 ⟨rfl, hb1⟩
      have HB1 := Lib.hid hb1
      clear hb1
      rw [HZ.out]
      go_wp2_with fail
      refine (htext_any n hn32 _ (tab10_below HT.out HB1.out)).mono ?_
      rw [← HTT.out, ← HZ.out]
      rintro e w2 ⟨rfl, hb2⟩
      have HB2 := Lib.hid (below_then HB1.out hb2)
      clear hb2
      go_wp2
      go_ret2
      exact ⟨rfl, HB2.out⟩

theorem raddress_any (h : ByteArray) (hs : h.size ≤ 1073741824) (w : World) :
    Calls Tryz.prog 51 #[.string h] w fun e w' => e = .returned (.tuple #[.int .u32 ((optN (addressP h.data.toList) : Nat) : Int), .bool (addressP h.data.toList).isSome]) ∧ Below w.heap.size w w' := by
  have HN := Lib.hid (rnumber_any h hs w)
  have hA : addressP h.data.toList = (match numberP h.data.toList with | none => none | some a => if textL a = h.data.toList then some a else none) := rfl
  have hlt := fun n (hn : numberP h.data.toList = some n) => addrP_lt (l := partsL h.data.toList) hn
  cases hO : numberP h.data.toList with
  | none =>
    rw [hO] at HN hA
    rw [hA]
    have HN2 : Hid (Calls Tryz.prog 90 #[.string h] w fun e w' => e = .returned (.tuple #[.int .u32 0, .bool false]) ∧ Below w.heap.size w w') := HN
    clear HN hA hO hlt
    go_enter Tryz.func51, Tryz.ntmps51
    go_wp2_with fail
    refine HN2.out.mono ?_
    rintro e w1 ⟨rfl, hb1⟩
    go_wp2
    go_ret2
    exact ⟨rfl, hb1⟩
  | some n =>
    have hn32 := hlt n hO
    rw [hO] at HN hA
    obtain ⟨z, hz⟩ : ∃ z : Int, z = (n : Int) := ⟨_, rfl⟩
    have HN2 : Hid (Calls Tryz.prog 90 #[.string h] w fun e w' => e = .returned (.tuple #[.int .u32 z, .bool true]) ∧ Below w.heap.size w w') := Lib.hid (by rw [hz]; exact HN.out)
    obtain ⟨tt, htt⟩ : ∃ tt : ByteArray, tt = ⟨(textL n).toArray⟩ := ⟨_, rfl⟩
    have htl : tt.data.toList = textL n := by rw [htt]
    have HZ := Lib.hid hz
    have HTT := Lib.hid htt
    simp only at hA
    by_cases he : textL n = h.data.toList
    · rw [if_pos he] at hA
      have hq : (tt.toList == h.toList) = true := by rw [ByteArray.toList_eq, ByteArray.toList_eq, htl, he, beq_iff_eq]
      rw [hA]
      clear HN hA hO hlt hz htt htl he
      go_enter Tryz.func51, Tryz.ntmps51
      go_wp2_with fail
      refine HN2.out.mono ?_
      rintro e w1 ⟨rfl, hb1⟩
      have HB1 := Lib.hid hb1
      clear hb1
      rw [HZ.out]
      go_wp2_with fail
      refine (raddr_any n hn32 _).mono ?_
      rw [← HTT.out, ← HZ.out]
      rintro e w2 ⟨rfl, hb2⟩
      have HB2 := Lib.hid (below_then HB1.out hb2)
      clear hb2
      go_wp2
      go_ret2
      exact ⟨by rw [HZ.out]; rfl, HB2.out⟩
    · rw [if_neg he] at hA
      have hq : (tt.toList == h.toList) = false := by rw [ByteArray.toList_eq, ByteArray.toList_eq, htl, beq_eq_false_iff_ne]; exact he
      rw [hA]
      clear HN hA hO hlt hz htt htl he
      go_enter Tryz.func51, Tryz.ntmps51
      go_wp2_with fail
      refine HN2.out.mono ?_
      rintro e w1 ⟨rfl, hb1⟩
      have HB1 := Lib.hid hb1
      clear hb1
      rw [HZ.out]
      go_wp2_with fail
      refine (raddr_any n hn32 _).mono ?_
      rw [← HTT.out, ← HZ.out]
      rintro e w2 ⟨rfl, hb2⟩
      have HB2 := Lib.hid (below_then HB1.out hb2)
      clear hb2
      go_wp2
      go_ret2
      exact ⟨rfl, HB2.out⟩

def hostB (o : Option (List UInt8)) : ByteArray := ⟨(o.getD []).toArray⟩

def hostE (o : Option (List UInt8)) : Int := if o.isSome then 0 else 8

theorem host_eq (s : List UInt8) : hostP s = hostD (lowL (decL s)) := rfl

theorem hostD_nil {d : List UInt8} (h : d = []) : hostD d = none := by unfold hostD; rw [if_pos (.inl h)]

theorem hostD_forb {d : List UInt8} (h : anyF d = true) : hostD d = none := by unfold hostD; rw [if_pos (.inr h)]

theorem hostD_name {d : List UInt8} (h : d ≠ []) (h2 : anyF d = false) (h3 : numericP ((partsL d).getLastD []) = false) : hostD d = some d := by
  unfold hostD
  unfold anyF at h2
  rw [if_neg (by rw [h2]; rintro (h | h); exact absurd h ‹d ≠ []›; exact absurd h (by decide)), if_neg (by rw [h3]; decide)]

theorem hostD_num {d : List UInt8} (h : d ≠ []) (h2 : anyF d = false) (h3 : numericP ((partsL d).getLastD []) = true) : hostD d = (numberP d).map textL := by
  unfold hostD
  unfold anyF at h2
  rw [if_neg (by rw [h2]; rintro (h | h); exact absurd h ‹d ≠ []›; exact absurd h (by decide)), if_pos h3]
  rfl

theorem dec_size (s : ByteArray) : (⟨(decL s.data.toList).toArray⟩ : ByteArray).size ≤ s.size := by
  rw [mk_size]
  have := decL_len _ s.data.toList (Nat.le_refl _)
  rw [size_data] at this
  exact this

set_option maxHeartbeats 1000000 in
theorem rhost_any (s : ByteArray) (hs : s.size ≤ 1073741824) (w : World) :
    Calls Tryz.prog 105 #[.string s] w fun e w' => e = .returned (.tuple #[.string (hostB (hostP s.data.toList)), .int .i64 (hostE (hostP s.data.toList))]) ∧ Below w.heap.size w w' := by
  obtain ⟨t, ht⟩ : ∃ t : ByteArray, t = ⟨(decL s.data.toList).toArray⟩ := ⟨_, rfl⟩
  have hts : t.size ≤ 1073741824 := by rw [ht]; exact Nat.le_trans (dec_size s) hs
  obtain ⟨d, hd⟩ : ∃ d : ByteArray, d = ⟨(lowL t.data.toList).toArray⟩ := ⟨_, rfl⟩
  have hds : d.size ≤ 1073741824 := by rw [hd, mk_size, low_length, size_data]; exact hts
  have hdl : d.data.toList = lowL (decL s.data.toList) := by rw [hd, ht]
  have hlow : lowL d.data.toList = d.data.toList := by rw [hdl, lowL_low]
  have HD := Lib.hid (ref_decode_any s hs w)
  rw [← ht] at HD
  have HL := Lib.hid (fun W => ref_lower_any t hts W)
  rw [← hd] at HL
  rw [host_eq, ← hdl]
  clear ht hd hdl
  by_cases h0 : d.size = 0
  · have hR := hostD_nil (nil_size h0)
    rw [hR]
    have hse := emptyYes h0
    clear hR h0
    go_enter Tryz.func105, Tryz.ntmps105
    go_wp2_with fail
    refine HD.out.mono ?_
    rintro e w1 ⟨rfl, hb1⟩
    have HB1 := Lib.hid hb1
    clear hb1
    go_wp2_with fail
    refine (HL.out _).mono ?_
    rintro e w2 ⟨rfl, hb2⟩
    have HB2 := Lib.hid (below_then HB1.out hb2)
    clear hb2
    go_wp2
    go_ret2
    exact ⟨rfl, HB2.out⟩
  · have hse := emptyNo h0
    have hne := ne_of_size h0
    go_enter Tryz.func105, Tryz.ntmps105
    go_wp2_with fail
    refine HD.out.mono ?_
    rintro e w1 ⟨rfl, hb1⟩
    have HB1 := Lib.hid hb1
    clear hb1
    go_wp2_with fail
    refine (HL.out _).mono ?_
    rintro e w2 ⟨rfl, hb2⟩
    have HB2 := Lib.hid (below_then HB1.out hb2)
    clear hb2
    go_wp2_with fail
    go_loop [5] (fun i => ∃ k : Nat, k ≤ d.size ∧ i = .int .i64 k ∧ Hid (anyF (d.data.toList.take k) = false)) (fun i => d.size - (intOf i).toNat)
    case atStart => exact ⟨0, Nat.zero_le _, rfl, Lib.hid rfl⟩
    case round =>
      obtain ⟨k, hk, rfl, HN⟩ := hrel
      by_cases hlt : k < d.size
      · have hlz : (k : Int) < (d.size : Int) := by omega
        have HTF := Lib.hid (forb_at d k hlt)
        have HSN := Lib.hid (forb_snoc d k hlt HN.out)
        have hfb : forbB d[k] = (decide ((d[k].toNat : Int) ≤ 32) || decide (127 ≤ (d[k].toNat : Int)) || hasB forbL d[k]) := rfl
        have HH := Lib.hid (ref_has_any ⟨forbL.toArray⟩ d[k] (by decide) w2)
        rw [show (⟨forbL.toArray⟩ : ByteArray).data.toList = forbL from rfl] at HH
        by_cases c1 : (d[k].toNat : Int) ≤ 32
        · rw [decide_eq_true c1] at hfb
          have HQ := Lib.hid (HTF.out (by rw [hfb]; rfl))
          clear hfb
          go_wp2
          go_ret2
          exact ⟨by rw [hostD_forb HQ.out]; rfl, HB2.out⟩
        · by_cases c2 : 127 ≤ (d[k].toNat : Int)
          · rw [decide_eq_true c2] at hfb
            have HQ := Lib.hid (HTF.out (by rw [hfb]; simp))
            clear hfb
            go_wp2
            go_ret2
            exact ⟨by rw [hostD_forb HQ.out]; rfl, HB2.out⟩
          · rw [decide_eq_false c1, decide_eq_false c2] at hfb
            cases c3 : hasB forbL d[k]
            · rw [c3] at HH hfb
              have HQ := Lib.hid (HSN.out (by rw [hfb]; rfl))
              clear hfb c3
              go_wp2_with fail
              refine HH.out.mono ?_
              rintro e w3 ⟨rfl, rfl⟩
              go_wp2
              go_round
              case rel => exact ⟨k + 1, by omega, by go_num, HQ⟩
              case measure => simp [intOf]; omega
            · rw [c3] at HH hfb
              have HQ := Lib.hid (HTF.out (by rw [hfb]; rfl))
              clear hfb c3
              go_wp2_with fail
              refine HH.out.mono ?_
              rintro e w3 ⟨rfl, rfl⟩
              go_wp2
              go_ret2
              exact ⟨by rw [hostD_forb HQ.out]; rfl, HB2.out⟩
      · have hlz : ¬ (k : Int) < (d.size : Int) := by omega
        have hfin := HN.out
        rw [List.take_of_length_le (by rw [size_data]; omega)] at hfin
        have HQ := Lib.hid hfin
        clear hfin
        have HN := Lib.hid (fun W => rnumber_any d hds W)
        have hlt2 := fun n (hn : numberP d.data.toList = some n) => addrP_lt (l := partsL d.data.toList) hn
        have HNU := Lib.hid (fun W => rnumeric_any d hds W)
        cases hn : numericP ((partsL d.data.toList).getLastD [])
        · have HR := Lib.hid (hostD_name hne HQ.out hn)
          rw [hn] at HNU
          have HDD : Hid (d = hostB (some d.data.toList)) := Lib.hid (mk_list d rfl)
          clear hn hlt2
          go_wp2_with fail
          refine (HNU.out _).mono ?_
          rintro e w5 ⟨rfl, hb5⟩
          have HB5 := Lib.hid (below_then HB2.out hb5)
          clear hb5
          go_wp2
          go_ret2
          exact ⟨by rw [HR.out, ← HDD.out]; rfl, HB5.out⟩
        · have HR := Lib.hid (hostD_num hne HQ.out hn)
          rw [hn] at HNU
          clear hn
          cases hO : numberP d.data.toList with
          | none =>
            rw [hO] at HN HR
            have HN2 : Hid (∀ W, Calls Tryz.prog 90 #[.string d] W fun e w' => e = .returned (.tuple #[.int .u32 0, .bool false]) ∧ Below W.heap.size W w') := HN
            clear HN hO hlt2
            go_wp2_with fail
            refine (HNU.out _).mono ?_
            rintro e w5 ⟨rfl, hb5⟩
            have HB5 := Lib.hid (below_then HB2.out hb5)
            clear hb5
            go_wp2_with fail
            refine (HN2.out _).mono ?_
            rintro e w6 ⟨rfl, hb6⟩
            have HB6 := Lib.hid (below_then HB5.out hb6)
            clear hb6
            go_wp2
            go_ret2
            exact ⟨by rw [HR.out]; rfl, HB6.out⟩
          | some n =>
            have hn32 := hlt2 n hO
            rw [hO] at HN HR
            obtain ⟨z, hz⟩ : ∃ z : Int, z = (n : Int) := ⟨_, rfl⟩
            have HN2 : Hid (∀ W, Calls Tryz.prog 90 #[.string d] W fun e w' => e = .returned (.tuple #[.int .u32 z, .bool true]) ∧ Below W.heap.size W w') := Lib.hid (by rw [hz]; exact HN.out)
            have HTX := Lib.hid (fun W => raddr_any n hn32 W)
            rw [← hz] at HTX
            clear HN hO hlt2 hn32 hz
            go_wp2_with fail
            refine (HNU.out _).mono ?_
            rintro e w5 ⟨rfl, hb5⟩
            have HB5 := Lib.hid (below_then HB2.out hb5)
            clear hb5
            go_wp2_with fail
            refine (HN2.out _).mono ?_
            rintro e w6 ⟨rfl, hb6⟩
            have HB6 := Lib.hid (below_then HB5.out hb6)
            clear hb6
            go_wp2_with fail
            refine (HTX.out _).mono ?_
            rintro e w7 ⟨rfl, hb7⟩
            have HB7 := Lib.hid (below_then HB6.out hb7)
            clear hb7
            go_wp2
            go_ret2
            exact ⟨by rw [HR.out]; rfl, HB7.out⟩

end Go.Proofs.YtnecjofgjbfheaaGreatDoor
