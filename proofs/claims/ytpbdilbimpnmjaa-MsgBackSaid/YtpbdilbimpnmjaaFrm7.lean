/- Contracts: the reference's Get and Put. -/
import Derived.BigRegion
import Derived.Deep.RegionHeldLaw
import Derived.Test.YtpbdilbimpnmjaaProg
import Derived.Test.YtpbdilbimpnmjaaKit
import Derived.Test.YtpbdilbimpnmjaaCod2
import Derived.Test.YtpbdilbimpnmjaaCod7
import Derived.Test.YtpbdilbimpnmjaaFrm0
namespace Go.Proofs.Ytpbdilbimpnmjaa
open Go.RowKit Go.Proofs

theorem or64 {a : Nat} {x : UInt8} (ha : a < 16777216) : bits .or .u64 ((a : Int) * 256) (x.toNat : Int) = ((a * 256 + x.toNat : Nat) : Int) := by
  have hx := x.toNat_lt
  have h1 : (BitVec.ofInt 64 ((a : Int) * 256)) = BitVec.ofNat 64 (a * 256) := by
    rw [show ((a : Int) * 256) = ((a * 256 : Nat) : Int) by omega, BitVec.ofInt_natCast]
  have h2 : (BitVec.ofInt 64 (x.toNat : Int)) = BitVec.ofNat 64 x.toNat := by rw [BitVec.ofInt_natCast]
  show IntKind.u64.wrap _ = _
  simp only [IntKind.bits]
  rw [h1, h2]
  have h3 : (BitVec.ofNat 64 (a * 256) ||| BitVec.ofNat 64 x.toNat).toNat = a * 256 + x.toNat := by
    rw [BitVec.toNat_or, BitVec.toNat_ofNat, BitVec.toNat_ofNat, Nat.mod_eq_of_lt (by omega), Nat.mod_eq_of_lt (by omega), Nat.mul_comm a 256]
    exact (Nat.two_pow_add_eq_or_of_lt (i := 8) hx a).symm
  have key : IntKind.u64.wrap (((BitVec.ofNat 64 (a * 256) ||| BitVec.ofNat 64 x.toNat).toNat : Nat) : Int) = ((a * 256 + x.toNat : Nat) : Int) := by
    rw [h3, IntKind.wrap_u64]
    omega
  exact key

theorem numS_snoc (l : List UInt8) (x : UInt8) : numS (l ++ [x]) = numS l * 256 + x.toNat := by simp [numS]

theorem numS_lt (l : List UInt8) : numS l < 256 ^ l.length := by
  suffices ∀ (n : Nat) (l : List UInt8), l.length = n → numS l < 256 ^ n from this _ l rfl
  intro n
  induction n with
  | zero => intro l h; rw [List.eq_nil_of_length_eq_zero h]; decide
  | succ n ih =>
    intro l h
    have hne : l ≠ [] := by intro e; rw [e] at h; simp at h
    have h1 : l = l.dropLast ++ [l.getLast hne] := (List.dropLast_concat_getLast hne).symm
    have h2 := ih l.dropLast (by rw [List.length_dropLast]; omega)
    rw [h1, numS_snoc, Nat.pow_succ]
    have := (l.getLast hne).toNat_lt
    omega

theorem get_any (b o N c : Nat) (l : List UInt8) (w : World) (hl : l.length = N) (hat : ByAt w b o l) (h4 : 4 ≤ N) :
    Calls Try.prog 46 #[.slice (some ⟨b, o, none⟩) N c, .int .i64 4] w fun e w' => e = .returned (.int .u64 ((numS (l.take 4) : Nat) : Int)) ∧ w = w' := by
  have HAT := Lib.hid hat
  have HL := Lib.hid hl
  clear hat hl
  go_enter Try.func46, Try.ntmps46
  go_wp2_with fail
  go_loopw [5, 6] (fun v i wr => ∃ k a : Nat, k ≤ 4 ∧ i = .int .i64 k ∧ v = .int .u64 a ∧ a < 4294967296 ∧ Hid (a = numS (l.take k)) ∧ w = wr) (fun _ i _ => 4 - (intOf i).toNat)
  case atStart => exact ⟨0, 0, Nat.zero_le _, rfl, rfl, by omega, Lib.hid rfl, rfl⟩
  case round =>
    obtain ⟨k, a, hk, rfl, rfl, ha, HA, rfl⟩ := hrel
    by_cases hlt : k < 4
    · obtain ⟨x, hx⟩ : ∃ x, l[k]? = some x := ⟨_, List.getElem?_eq_getElem (by rw [HL.out]; omega)⟩
      have hcx := HAT.out k x hx
      have hak : a < 16777216 := by
        rw [HA.out]
        have h1 := numS_lt (l.take k)
        have h2 : (l.take k).length = k := by rw [List.length_take, HL.out]; omega
        rw [h2] at h1
        exact Nat.lt_of_lt_of_le h1 (Nat.le_trans (Nat.pow_le_pow_right (by decide) (by omega : k ≤ 3)) (by decide))
      have hor := or64 (a := a) (x := x) hak
      have hmod : (a : Int) * 256 % 18446744073709551616 = (a : Int) * 256 := by omega
      have hwx : IntKind.u64.wrap (x.toNat : Int) = (x.toNat : Int) := by rw [IntKind.wrap_u64]; have := x.toNat_lt; omega
      have HX : Hid (a * 256 + x.toNat = numS (l.take (k + 1))) := Lib.hid (by rw [take_succ_of hx, numS_snoc, HA.out])
      have HXL : Hid (a * 256 + x.toNat < 4294967296) := Lib.hid (by have := x.toNat_lt; omega)
      have hy : (k : Int) < 4 := by omega
      have hyN : (k : Int) < (N : Int) := by omega
      have HKL := Lib.hid hlt
      clear hx hlt hk ha hak
      go_wp2_with fail
      go_roundw
      case rel =>
        have := HKL.out
        exact ⟨k + 1, a * 256 + x.toNat, by omega, by go_num, rfl, HXL.out, HX, trivial⟩
      case measure => have := HKL.out; simp [intOf]; omega
    · have HE : Hid (a = numS (l.take 4)) := Lib.hid (by have := HA.out; rw [show k = 4 by omega] at this; exact this)
      have hyk : ¬ (k : Int) < 4 := by omega
      clear hk hlt ha
      go_wp2_with fail
      go_ret
      exact ⟨by rw [HE.out]; rfl, rfl⟩

end Go.Proofs.Ytpbdilbimpnmjaa
