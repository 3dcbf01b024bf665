/- Contracts: the reference's Lay and Get. -/
import Derived.BigRegion
import Derived.Test.YtblocggiljdamaaDoorProg
import Derived.Test.YtblocggiljdamaaDoorKit
import Derived.Test.YtblocggiljdamaaDoorInfo
import Derived.Test.YtblocggiljdamaaDoorRow
import Derived.Test.YtblocggiljdamaaDoorCod7
import Derived.Test.YtblocggiljdamaaDoorFrm0
namespace Go.Proofs.YtblocggiljdamaaDoor
open Go.RowKit Go.Proofs

theorem lay_snoc : ∀ (n V k : Nat), k < n → (layS n V).take (k + 1) = (layS n V).take k ++ [UInt8.ofNat (V / 256 ^ (n - 1 - k))]
  | 0, _, _, h => absurd h (Nat.not_lt_zero _)
  | n + 1, V, 0, _ => by simp [layS]
  | n + 1, V, k + 1, h => by
    have := lay_snoc n V k (by omega)
    rw [layS, List.take_succ_cons, List.take_succ_cons, this, List.cons_append, show n + 1 - 1 - (k + 1) = n - 1 - k by omega]

theorem lay_byte (V j : Nat) : Value.int .u8 ((V : Int) / 2 ^ (8 * j) % 256) = byteV (UInt8.ofNat (V / 256 ^ j)) := by
  unfold byteV
  rw [UInt8.toNat_ofNat', show (256 : Nat) ^ j = 2 ^ (8 * j) by rw [show (256 : Nat) = 2 ^ 8 from rfl, ← Nat.pow_mul]]
  congr 1

theorem lay_any (B n M V : Nat) (v : Value) (l : List UInt8) (w : World) (hw : w.ownsRow B 5 1 v M (l.map byteV)) (hB : B ≤ w.heap.size) (hn : n ≤ 8) (hV : V < 18446744073709551616) (hM : M < 1099511627000) :
    Calls Tryd.prog 24 #[v, .int .i64 n, .int .u64 (V : Int)] w fun e w' => (∃ v', e = .returned v' ∧ w'.ownsRow B 5 1 v' (M + n) ((l ++ layS n V).map byteV)) ∧ Below B w w' := by
  obtain ⟨i0, hi, hz0, hz1, hz2⟩ := info_parts Tryd.infoByte
  obtain ⟨a0, c0, rfl⟩ := own_len hw
  have hw0 : w.ownsRow B 5 1 (.slice a0 M c0) M ((l ++ (layS n V).take 0).map byteV) := by simpa using hw
  have HW := Lib.hid hw0
  have HB := Lib.hid hB
  have hV1 : (V : Int) < 18446744073709551616 := by omega
  clear hw hw0 hB hV
  go_enter Tryd.func24, Tryd.ntmps24
  go_wp2_with fail
  go_loopw [0, 7] (fun v i wr => ∃ (k X : Nat) (ii : Int) (a : Option Addr) (c : Nat), v = .slice a X c ∧ i = .int .i64 ii ∧ k ≤ n ∧ ii = (n : Int) - 1 - (k : Int) ∧ Hid (X = M + k) ∧ Hid (wr.ownsRow B 5 1 (.slice a X c) X ((l ++ (layS n V).take k).map byteV)) ∧ Hid (Below B w wr)) (fun _ i _ => (intOf i + 1).toNat)
  case atStart => exact ⟨0, M, _, a0, c0, rfl, rfl, Nat.zero_le _, by omega, Lib.hid rfl, HW, Lib.hid (Below.refl _ _)⟩
  case round =>
    clear HW
    obtain ⟨k, X, ii, a, c, rfl, rfl, hk, hii, HX, HO, HBW⟩ := hrel
    obtain ⟨w1, hw1⟩ : ∃ w1 : World, w1 = wr := ⟨_, rfl⟩
    subst hw1
    by_cases hlt : k < n
    · obtain ⟨j, hj⟩ : ∃ j, j = n - 1 - k := ⟨_, rfl⟩
      obtain rfl : ii = (j : Int) := by omega
      have hj8 : (j : Int) < 8 := by omega
      have hX := HX.out
      have hXb : X < 1099511627776 := by omega
      have HVB := Lib.hid (lay_byte V j)
      have HS : Hid (l ++ (layS n V).take (k + 1) = (l ++ (layS n V).take k) ++ [UInt8.ofNat (V / 256 ^ j)]) := Lib.hid (by rw [lay_snoc n V k hlt, List.append_assoc, hj])
      have HJ := Lib.hid hj
      have HKL := Lib.hid hlt
      clear hii hj hX hlt hk
      go_wp2_with (at_builtin; refine wpList_append1 rfl _ _ 23 rfl B 5 rfl i0 (.int .u8 0) 1 Tryd.underlying23 hi hz0 hz1 hz2 rfl (.slice a X c) X _ rfl HO.out rfl rfl hXb (by decide) (Nat.le_trans HB.out HBW.out.size) ?_; intro v8 w8 hown8 hb8; obtain ⟨a8, c8, rfl⟩ := own_len hown8)
      go_roundw
      case rel =>
        have hX := HX.out
        have hk := HKL.out
        have hj := HJ.out
        refine ⟨k + 1, X + 1, _, a8, c8, rfl, rfl, by omega, by omega, Lib.hid (by omega), Lib.hid ?_, Lib.hid (HBW.out.trans hb8)⟩
        rw [HS.out, List.map_append]
        have h := hown8
        rw [HVB.out] at h
        exact h
      case measure => simp [intOf]
    · have hneg : ii < 0 := by omega
      have hkn : k = n := by omega
      have HO2 : Hid (w1.ownsRow B 5 1 (.slice a X c) (M + n) ((l ++ layS n V).map byteV)) := Lib.hid (by
        have h := HO.out
        rw [HX.out, hkn, List.take_of_length_le (by rw [layS_len]; omega)] at h
        rw [HX.out, hkn]
        exact h)
      clear hV1 hM hn hii hkn hlt hk
      go_wp2_with fail
      go_ret
      exact ⟨⟨_, rfl, HO2.out⟩, HBW.out⟩

end Go.Proofs.YtblocggiljdamaaDoor
