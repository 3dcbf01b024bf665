/- Contracts of ascii.Lower, ascii.Same and their references. -/
import Derived.Test.YtnecjofgjbfheaaGreatDoorProg
import Derived.Test.YtnecjofgjbfheaaGreatDoorKit
import Derived.Test.YtnecjofgjbfheaaGreatDoorInfo
import Derived.Test.YtnecjofgjbfheaaGreatDoorPlain
import Derived.Test.YtnecjofgjbfheaaGreatDoorLow
namespace Go.Proofs.YtnecjofgjbfheaaGreatDoor
open Go.RowKit
set_option maxRecDepth 100000

theorem ref_lower_any (s : ByteArray) (hs : s.size ≤ 1073741824) (w : World) :
    Calls Tryz.prog 42 #[.string s] w fun e w' => e = .returned (.string ⟨(lowL s.data.toList).toArray⟩) ∧ Below w.heap.size w w' := by
  obtain ⟨i0, hi, hz0, hz1, hz2⟩ := info_parts Tryz.infoByte
  go_enter Tryz.func42, Tryz.ntmps42
  go_wp2
  go_loopw [3, 4] (fun v i wr => ∃ k : Nat, k ≤ s.size ∧ i = .int .i64 k ∧ wr.ownsRow w.heap.size 5 1 v k ((lowL (s.data.toList.take k)).map byteV) ∧ Below w.heap.size w wr) (fun _ i _ => s.size - (intOf i).toNat)
  case atStart => exact ⟨0, Nat.zero_le _, rfl, World.ownsRow_nil _ _ _ _, Below.refl _ _⟩
  case round =>
    obtain ⟨k, hk, rfl, hown, hnx⟩ := hrel
    have hsz := hnx.size
    by_cases hlt : k < s.size
    · have hl := lowL_snoc s k hlt
      have HL := Lib.hid hl
      clear hl
      have hbd := byte_bd s[k]
      by_cases h65 : 65 ≤ (s[k].toNat : Int)
      · by_cases h90 : (s[k].toNat : Int) ≤ 90
        · go_wp2_with (at_builtin; refine wpList_append1 rfl _ _ 76 rfl w.heap.size 5 rfl i0 (.int .u8 0) 1 Tryz.underlying76 hi hz0 hz1 hz2 rfl _ k _ rfl hown rfl rfl (by omega) (by omega) hsz ?_; intro v' w' hown' hb')
          go_roundw
          case rel => exact ⟨k + 1, by omega, by go_num, by rw [HL.out, ← byteV_low, lowI_yes h65 h90]; exact hown', hnx.trans hb'⟩
          case measure => simp [intOf]; omega
        · go_wp2_with (at_builtin; refine wpList_append1 rfl _ _ 76 rfl w.heap.size 5 rfl i0 (.int .u8 0) 1 Tryz.underlying76 hi hz0 hz1 hz2 rfl _ k _ rfl hown rfl rfl (by omega) (by omega) hsz ?_; intro v' w' hown' hb')
          go_roundw
          case rel => exact ⟨k + 1, by omega, by go_num, by rw [HL.out, ← byteV_low, lowI_hi (by omega)]; exact hown', hnx.trans hb'⟩
          case measure => simp [intOf]; omega
      · go_wp2_with (at_builtin; refine wpList_append1 rfl _ _ 76 rfl w.heap.size 5 rfl i0 (.int .u8 0) 1 Tryz.underlying76 hi hz0 hz1 hz2 rfl _ k _ rfl hown rfl rfl (by omega) (by omega) hsz ?_; intro v' w' hown' hb')
        go_roundw
        case rel => exact ⟨k + 1, by omega, by go_num, by rw [HL.out, ← byteV_low, lowI_lo (by omega)]; exact hown', hnx.trans hb'⟩
        case measure => simp [intOf]; omega
    · have hk' : s.data.toList.take k = s.data.toList := List.take_of_length_le (by simp; omega)
      rw [hk'] at hown
      clear hk'
      have kc := run_convert_own (P := Tryz.prog) 76 5 9 Tryz.underlying76 Tryz.underlying5 Tryz.underlying9 hown
      go_wp2
      go_ret
      exact ⟨rfl, hnx⟩

def lowUpTo (l : List UInt8) (k : Nat) : List UInt8 := (l.take k).map lowB ++ l.drop k

theorem lowUpTo_len (l : List UInt8) (k : Nat) : (lowUpTo l k).length = l.length := by simp [lowUpTo]; omega

theorem lowUpTo_set (l : List UInt8) (k : Nat) (c : UInt8) (h : l[k]? = some c) : ((lowUpTo l k).map byteV).set k (byteV (lowB c)) = (lowUpTo l (k + 1)).map byteV := by
  obtain ⟨hk, rfl⟩ := List.getElem?_eq_some_iff.1 h
  have e1 : min k l.length = k := by omega
  unfold lowUpTo
  rw [List.take_succ_eq_append_getElem hk, List.drop_eq_getElem_cons hk]
  simp only [List.map_append, List.map_cons, List.map_nil, List.append_assoc]
  rw [List.set_append_right _ _ (by simp; omega)]
  simp [e1]

theorem lowUpTo_at (l : List UInt8) (k : Nat) (c : UInt8) (h : l[k]? = some c) : ((lowUpTo l k).map byteV)[k]? = some (.int .u8 c.toNat) := by
  obtain ⟨hk, rfl⟩ := List.getElem?_eq_some_iff.1 h
  have e1 : min k l.length = k := by omega
  unfold lowUpTo
  rw [List.drop_eq_getElem_cons hk]
  simp only [List.map_append, List.map_cons, List.map_map]
  rw [List.getElem?_append_right (by simp; omega)]
  simp [e1, byteV]

theorem lowUpTo_all (l : List UInt8) (k : Nat) (h : l.length ≤ k) : lowUpTo l k = lowL l := by
  unfold lowUpTo lowL
  rw [List.take_of_length_le h, List.drop_eq_nil_of_le h, List.append_nil]

theorem lower_str_any (s : ByteArray) (hs : s.size ≤ 1073741824) (w : World) :
    Calls Tryz.prog 73 #[.string s] w fun e w' => e = .returned (.string ⟨(lowL s.data.toList).toArray⟩) ∧ Below w.heap.size w w' := by
  have kc := run_bytes_of_string (P := Tryz.prog) w 9 76 5 s Tryz.underlying9 Tryz.underlying76 Tryz.underlying5
  have hcap := grownCap_le w s.size 0 5
  have hbuf := Buf.bytes (w := w) (e := 5) s _ hcap
  have hbel : Below w.heap.size w (w.alloc (.cells (bytesRow s (grownCap w s.size 0 5)) 5 ((bytesRow s (grownCap w s.size 0 5)).size, (bytesRow s (grownCap w s.size 0 5)).size + 1))).drew := ((Below.refl _ _).alloc (Nat.le_refl _) _).drew
  have hsl : s.data.toList.length = s.size := by simp
  go_enter Tryz.func73, Tryz.ntmps73
  go_wp2
  go_loopw [10] (fun i wr => ∃ k : Nat, k ≤ s.size ∧ i = .int .i64 k ∧ Buf wr w.heap.size 5 ((lowUpTo s.data.toList k).map byteV) ∧ Below w.heap.size w wr) (fun i _ => s.size - (intOf i).toNat)
  case atStart => exact ⟨0, Nat.zero_le _, rfl, by simpa [lowUpTo] using hbuf, hbel⟩
  case round =>
    clear hbuf hbel kc
    obtain ⟨k, hk, rfl, hb, hnx⟩ := hrel
    have hsz := hnx.size
    by_cases hlt : k < s.size
    · obtain ⟨c, hc0⟩ : ∃ c, s.data.toList[k]? = some c := ⟨_, List.getElem?_eq_getElem (by omega)⟩
      have hc := hb.at (lowUpTo_at _ _ _ hc0)
      have hf := hb.free k (by rw [List.length_map, lowUpTo_len, hsl]; exact hlt)
      have hst := hb.stored k (byteV (lowB c))
      rw [lowUpTo_set _ _ _ hc0, ← byteV_low] at hst
      have hbd := byte_bd c
      have HS := Lib.hid hsl
      clear hc0 hsl
      go_wp2_with (go_at_call 69; refine (lower_any _ hbd.1 hbd.2 _).mono ?_; rintro e w' ⟨rfl, rfl⟩)
      go_roundw
      case rel => exact ⟨k + 1, by omega, by go_num, hst, hnx.setCell (Nat.le_refl _) _⟩
      case measure => simp [intOf]; omega
    · rw [lowUpTo_all _ _ (by omega)] at hb
      have kc := run_convert_buf (P := Tryz.prog) 76 5 9 Tryz.underlying76 Tryz.underlying5 Tryz.underlying9 (n := s.size) (cap := grownCap w s.size 0 5) hb (by simp [lowL])
      clear hsl
      go_wp2
      go_ret
      exact ⟨rfl, hnx⟩

theorem lowL_eq_snoc (a b : ByteArray) (k : Nat) (ha : k < a.size) (hb : k < b.size) (h : lowL (a.data.toList.take k) = lowL (b.data.toList.take k)) :
    (lowL (a.data.toList.take (k + 1)) = lowL (b.data.toList.take (k + 1))) ↔ lowI a[k].toNat = lowI b[k].toNat := by
  have h1 : lowL (a.data.toList.take (k + 1)) = lowL (a.data.toList.take k) ++ [lowB a[k]] := by rw [take_snoc a k ha]; simp [lowL]
  have h2 : lowL (b.data.toList.take (k + 1)) = lowL (b.data.toList.take k) ++ [lowB b[k]] := by rw [take_snoc b k hb]; simp [lowL]
  rw [h1, h2, h, ← lowB_toNat, ← lowB_toNat]
  constructor
  · intro e; have := List.append_cancel_left e; simp at this; rw [this]
  · intro e; have : lowB a[k] = lowB b[k] := UInt8.toNat_inj.1 (by omega); rw [this]

theorem lowL_take_ne {a b : List UInt8} {k : Nat} (h : lowL (a.take k) ≠ lowL (b.take k)) : lowL a ≠ lowL b := by
  intro e
  apply h
  unfold lowL at *
  rw [List.map_take, List.map_take, e]

theorem lowL_length (l : List UInt8) : (lowL l).length = l.length := by simp [lowL]

def sameB (a b : List UInt8) : Bool := decide (lowL a = lowL b)

theorem sameB_yes {a b : List UInt8} (h : lowL a = lowL b) : sameB a b = true := by unfold sameB; exact decide_eq_true h

theorem sameB_no {a b : List UInt8} (h : lowL a ≠ lowL b) : sameB a b = false := by unfold sameB; exact decide_eq_false h

theorem same_any (a b : ByteArray) (ha : a.size ≤ 1073741824) (_hb : b.size ≤ 1073741824) (w : World) :
    Calls Tryz.prog 31 #[.string a, .string b] w fun e w' => e = .returned (.bool (sameB a.data.toList b.data.toList)) ∧ ∃ m, w' = w.drewN m := by
  by_cases hs : a.size = b.size
  · have hs0 : ((a.size : Int) != (b.size : Int)) = false := by rw [bne_eq_false_iff_eq]; omega
    have HS := Lib.hid hs
    clear hs
    go_enter Tryz.func31, Tryz.ntmps31
    go_wp2
    go_loopw [13] (fun i wr => ∃ k : Nat, k ≤ a.size ∧ i = .int .i64 k ∧ lowL (a.data.toList.take k) = lowL (b.data.toList.take k) ∧ ∃ m, wr = w.drewN m) (fun i _ => a.size - (intOf i).toNat)
    case atStart => exact ⟨0, Nat.zero_le _, rfl, rfl, 0, rfl⟩
    case round =>
      clear hs0
      obtain ⟨k, hk, rfl, he, hm⟩ := hrel
      have HM := Lib.hid hm
      clear hm
      by_cases hlt : k < a.size
      · have hlb : k < b.size := by have := HS.out; omega
        have hiff := lowL_eq_snoc a b k hlt hlb he
        have HI := Lib.hid hiff
        have HE := Lib.hid he
        clear he hiff
        have hx1 : (k : Int) < (a.size : Int) := by omega
        have hx2 : (k : Int) < (b.size : Int) := by omega
        by_cases hq : lowI a[k].toNat = lowI b[k].toNat
        · have hq0 : (lowI a[k].toNat != lowI b[k].toNat) = false := by rw [bne_eq_false_iff_eq]; exact hq
          have HQ := Lib.hid hq
          clear hq
          go_wp2_with fail
          go_quiet ((go_at_call 69; exact Calls.quiet_of_same (lower_byte _ _)))
          go_wp2
          go_roundw
          case rel => exact ⟨k + 1, by omega, by go_num, HI.out.2 HQ.out, drewN_more HM.out _⟩
          case measure => simp [intOf]; omega
        · have hq0 : (lowI a[k].toNat != lowI b[k].toNat) = true := by rw [bne_iff_ne]; exact hq
          have HQ := Lib.hid hq
          clear hq
          go_wp2_with fail
          go_quiet ((go_at_call 69; exact Calls.quiet_of_same (lower_byte _ _)))
          go_wp2
          go_ret
          exact ⟨ret_bool (sameB_no (lowL_take_ne fun e => HQ.out (HI.out.1 e))).symm, drewN_more HM.out _⟩
      · have hfin : sameB a.data.toList b.data.toList = true := by
          have := HS.out
          rw [List.take_of_length_le (by simp; omega), List.take_of_length_le (by simp; omega)] at he
          exact sameB_yes he
        have HF := Lib.hid hfin
        clear hfin he
        go_wp2
        go_ret
        exact ⟨ret_bool HF.out.symm, HM.out⟩
  · have hs0 : ((a.size : Int) != (b.size : Int)) = true := by rw [bne_iff_ne]; omega
    have hfin : sameB a.data.toList b.data.toList = false := sameB_no fun e => hs (by
      have := congrArg List.length e
      rw [lowL_length, lowL_length] at this
      simpa using this)
    have HF := Lib.hid hfin
    clear hfin hs
    go_enter Tryz.func31, Tryz.ntmps31
    go_wp2
    go_ret
    exact ⟨ret_bool HF.out.symm, 0, rfl⟩

theorem ref_same_any (a b : ByteArray) (ha : a.size ≤ 1073741824) (hb : b.size ≤ 1073741824) (w : World) :
    Calls Tryz.prog 40 #[.string a, .string b] w fun e w' => e = .returned (.bool (sameB a.data.toList b.data.toList)) ∧ Below w.heap.size w w' := by
  go_enter Tryz.func40, Tryz.ntmps40
  go_wp2_with fail
  refine (ref_lower_any a ha _).mono ?_
  rintro e w1 ⟨rfl, hb1⟩
  go_wp2_with fail
  refine (ref_lower_any b hb _).mono ?_
  rintro e w2 ⟨rfl, hb2⟩
  go_wp2
  go_ret
  refine ⟨ret_bool ?_, hb1.trans (hb2.mono hb1.size)⟩
  unfold sameB
  rw [Bool.eq_iff_iff]
  simp

end Go.Proofs.YtnecjofgjbfheaaGreatDoor
