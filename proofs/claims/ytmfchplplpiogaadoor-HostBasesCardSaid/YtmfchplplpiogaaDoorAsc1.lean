/- Contracts: bytes of ASCII, membership in lists. -/
import Derived.Test.YtmfchplplpiogaaDoorProg
import Derived.Test.YtmfchplplpiogaaDoorKit
import Derived.Test.YtmfchplplpiogaaDoorPlain
namespace Go.Proofs.YtmfchplplpiogaaDoor
open Go.RowKit Go.Proofs

/-- Is the byte among those? -/
def hasB (l : List UInt8) (c : UInt8) : Bool := l.contains c

theorem contains_take_snoc (s : ByteArray) (k : Nat) (h : k < s.size) (c : UInt8) (hno : (s.data.toList.take k).contains c = false) (hne : s[k].toNat ≠ c.toNat) : (s.data.toList.take (k + 1)).contains c = false := by
  rw [take_snoc s k h]
  simp at hno ⊢
  refine ⟨hno, fun e => hne ?_⟩
  rw [e]

theorem contains_at (s : ByteArray) (k : Nat) (h : k < s.size) (c : UInt8) (he : s[k].toNat = c.toNat) : s.data.toList.contains c = true := by
  have : s[k] = c := UInt8.toNat_inj.1 he
  simp
  rw [← this]
  exact Array.getElem_mem _

/-- Has: whether a byte is among those of a text. -/
theorem ref_has_any (s : ByteArray) (c : UInt8) (hs : s.size ≤ 1073741824) (w : World) :
    Calls Tryd.prog 31 #[.string s, .int .u8 c.toNat] w fun e w' => e = .returned (.bool (hasB s.data.toList c)) ∧ w' = w := by
  go_enter Tryd.func31, Tryd.ntmps31
  go_wp2
  go_loop [5] (fun i => ∃ k : Nat, k ≤ s.size ∧ i = .int .i64 k ∧ (s.data.toList.take k).contains c = false) (fun i => s.size - (intOf i).toNat)
  case atStart => exact ⟨0, Nat.zero_le _, rfl, rfl⟩
  case round =>
    obtain ⟨k, hk, rfl, hno⟩ := hrel
    have HN := Lib.hid hno
    clear hno
    by_cases hlt : k < s.size
    · by_cases hq : s[k].toNat = c.toNat
      · have hq0 : ((s[k].toNat : Int) == (c.toNat : Int)) = true := beq_iff_eq.2 (by omega)
        have HF := Lib.hid (contains_at s k hlt c hq)
        clear hq
        go_wp2
        go_ret
        exact ⟨ret_bool HF.out.symm, rfl⟩
      · have hq0 : ((s[k].toNat : Int) == (c.toNat : Int)) = false := beq_eq_false_iff_ne.2 (by omega)
        have HF := Lib.hid (contains_take_snoc s k hlt c HN.out hq)
        clear hq
        go_wp2
        go_round
        case rel => exact ⟨k + 1, by omega, by go_num, HF.out⟩
        case measure => simp [intOf]; omega
    · have hfin := HN.out
      rw [List.take_of_length_le (by simp; omega)] at hfin
      have HF := Lib.hid hfin
      clear hfin
      go_wp2
      go_ret
      exact ⟨ret_bool HF.out.symm, rfl⟩

end Go.Proofs.YtmfchplplpiogaaDoor
