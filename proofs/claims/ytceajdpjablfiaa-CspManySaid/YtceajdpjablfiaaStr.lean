/- Contracts of ascii.Lower, ascii.Same and their references. -/
import Derived.Test.YtceajdpjablfiaaProg
import Derived.Test.YtceajdpjablfiaaKit
import Derived.Test.YtceajdpjablfiaaInfo
import Derived.Test.YtceajdpjablfiaaPlain
import Derived.Test.YtceajdpjablfiaaLow
namespace Go.Proofs.Ytceajdpjablfiaa
open Go.RowKit

theorem ref_lower_any (s : ByteArray) (hs : s.size ≤ 1073741824) (w : World) :
    Calls Try.prog 26 #[.string s] w fun e w' => e = .returned (.string ⟨(lowL s.data.toList).toArray⟩) ∧ Below w.heap.size w w' := by
  obtain ⟨i0, hi, hz0, hz1, hz2⟩ := info_parts Try.infoByte
  go_enter Try.func26, Try.ntmps26
  go_wp2
  go_loopw [3, 4] (fun v i wr => ∃ k : Nat, k ≤ s.size ∧ i = .int .i64 k ∧ wr.ownsRow w.heap.size 5 1 v k ((lowL (s.data.toList.take k)).map byteV) ∧ Below w.heap.size w wr) (fun _ i _ => s.size - (intOf i).toNat)
  case atStart => exact ⟨0, Nat.zero_le _, rfl, World.ownsRow_nil _ _ _ _, Below.refl _ _⟩
  case round =>
    obtain ⟨k, hk, rfl, hown, hnx⟩ := hrel
    have hsz := hnx.size
    by_cases hlt : k < s.size
    · have hl := lowL_snoc s k hlt
      have HL := Lib.hid hl
      clear hl
      have hbd := byte_bd s[k]
      by_cases h65 : 65 ≤ (s[k].toNat : Int)
      · by_cases h90 : (s[k].toNat : Int) ≤ 90
        · go_wp2_with (at_builtin; refine wpList_append1 rfl _ _ 39 rfl w.heap.size 5 rfl i0 (.int .u8 0) 1 Try.underlying39 hi hz0 hz1 hz2 rfl _ k _ rfl hown rfl rfl (by omega) (by omega) hsz ?_; intro v' w' hown' hb')
          go_roundw
          case rel => exact ⟨k + 1, by omega, by go_num, by rw [HL.out, ← byteV_low, lowI_yes h65 h90]; exact hown', hnx.trans hb'⟩
          case measure => simp [intOf]; omega
        · go_wp2_with (at_builtin; refine wpList_append1 rfl _ _ 39 rfl w.heap.size 5 rfl i0 (.int .u8 0) 1 Try.underlying39 hi hz0 hz1 hz2 rfl _ k _ rfl hown rfl rfl (by omega) (by omega) hsz ?_; intro v' w' hown' hb')
          go_roundw
          case rel => exact ⟨k + 1, by omega, by go_num, by rw [HL.out, ← byteV_low, lowI_hi (by omega)]; exact hown', hnx.trans hb'⟩
          case measure => simp [intOf]; omega
      · go_wp2_with (at_builtin; refine wpList_append1 rfl _ _ 39 rfl w.heap.size 5 rfl i0 (.int .u8 0) 1 Try.underlying39 hi hz0 hz1 hz2 rfl _ k _ rfl hown rfl rfl (by omega) (by omega) hsz ?_; intro v' w' hown' hb')
        go_roundw
        case rel => exact ⟨k + 1, by omega, by go_num, by rw [HL.out, ← byteV_low, lowI_lo (by omega)]; exact hown', hnx.trans hb'⟩
        case measure => simp [intOf]; omega
    · have hk' : s.data.toList.take k = s.data.toList := List.take_of_length_le (by simp; omega)
      rw [hk'] at hown
      clear hk'
      have kc := run_convert_own (P := Try.prog) 39 5 9 Try.underlying39 Try.underlying5 Try.underlying9 hown
      go_wp2
      go_ret
      exact ⟨rfl, hnx⟩

def lowUpTo (l : List UInt8) (k : Nat) : List UInt8 := (l.take k).map lowB ++ l.drop k

theorem lowUpTo_len (l : List UInt8) (k : Nat) : (lowUpTo l k).length = l.length := by simp [lowUpTo]; omega

theorem lowUpTo_set (l : List UInt8) (k : Nat) (c : UInt8) (h : l[k]? = some c) : ((lowUpTo l k).map byteV).set k (byteV (lowB c)) = (lowUpTo l (k + 1)).map byteV := by
  obtain ⟨hk, rfl⟩ := List.getElem?_eq_some_iff.1 h
  have e1 : min k l.length = k := by omega
  unfold lowUpTo
  rw [List.take_succ_eq_append_getElem hk, List.drop_eq_getElem_cons hk]
  simp only [List.map_append, List.map_cons, List.map_nil, List.append_assoc]
  rw [List.set_append_right _ _ (by simp; omega)]
  simp [e1]

theorem lowUpTo_at (l : List UInt8) (k : Nat) (c : UInt8) (h : l[k]? = some c) : ((lowUpTo l k).map byteV)[k]? = some (.int .u8 c.toNat) := by
  obtain ⟨hk, rfl⟩ := List.getElem?_eq_some_iff.1 h
  have e1 : min k l.length = k := by omega
  unfold lowUpTo
  rw [List.drop_eq_getElem_cons hk]
  simp only [List.map_append, List.map_cons, List.map_map]
  rw [List.getElem?_append_right (by simp; omega)]
  simp [e1, byteV]

theorem lowUpTo_all (l : List UInt8) (k : Nat) (h : l.length ≤ k) : lowUpTo l k = lowL l := by
  unfold lowUpTo lowL
  rw [List.take_of_length_le h, List.drop_eq_nil_of_le h, List.append_nil]

theorem lower_str_any (s : ByteArray) (hs : s.size ≤ 1073741824) (w : World) :
    Calls Try.prog 31 #[.string s] w fun e w' => e = .returned (.string ⟨(lowL s.data.toList).toArray⟩) ∧ Below w.heap.size w w' := by
  have kc := run_bytes_of_string (P := Try.prog) w 9 39 5 s Try.underlying9 Try.underlying39 Try.underlying5
  have hcap := grownCap_le w s.size 0 5
  have hbuf := Buf.bytes (w := w) (e := 5) s _ hcap
  have hbel : Below w.heap.size w (w.alloc (.cells (bytesRow s (grownCap w s.size 0 5)) 5 ((bytesRow s (grownCap w s.size 0 5)).size, (bytesRow s (grownCap w s.size 0 5)).size + 1))).drew := ((Below.refl _ _).alloc (Nat.le_refl _) _).drew
  have hsl : s.data.toList.length = s.size := by simp
  go_enter Try.func31, Try.ntmps31
  go_wp2
  go_loopw [10] (fun i wr => ∃ k : Nat, k ≤ s.size ∧ i = .int .i64 k ∧ Buf wr w.heap.size 5 ((lowUpTo s.data.toList k).map byteV) ∧ Below w.heap.size w wr) (fun i _ => s.size - (intOf i).toNat)
  case atStart => exact ⟨0, Nat.zero_le _, rfl, by simpa [lowUpTo] using hbuf, hbel⟩
  case round =>
    clear hbuf hbel kc
    obtain ⟨k, hk, rfl, hb, hnx⟩ := hrel
    have hsz := hnx.size
    by_cases hlt : k < s.size
    · obtain ⟨c, hc0⟩ : ∃ c, s.data.toList[k]? = some c := ⟨_, List.getElem?_eq_getElem (by omega)⟩
      have hc := hb.at (lowUpTo_at _ _ _ hc0)
      have hf := hb.free k (by rw [List.length_map, lowUpTo_len, hsl]; exact hlt)
      have hst := hb.stored k (byteV (lowB c))
      rw [lowUpTo_set _ _ _ hc0, ← byteV_low] at hst
      have hbd := byte_bd c
      have HS := Lib.hid hsl
      clear hc0 hsl
      go_wp2_with (go_at_call 38; refine (lower_any _ hbd.1 hbd.2 _).mono ?_; rintro e w' ⟨rfl, rfl⟩)
      go_roundw
      case rel => exact ⟨k + 1, by omega, by go_num, hst, hnx.setCell (Nat.le_refl _) _⟩
      case measure => simp [intOf]; omega
    · rw [lowUpTo_all _ _ (by omega)] at hb
      have kc := run_convert_buf (P := Try.prog) 39 5 9 Try.underlying39 Try.underlying5 Try.underlying9 (n := s.size) (cap := grownCap w s.size 0 5) hb (by simp [lowL])
      clear hsl
      go_wp2
      go_ret
      exact ⟨rfl, hnx⟩

end Go.Proofs.Ytceajdpjablfiaa
