/- Contracts: the reference's CRC. -/
import Derived.BigRegion
import Derived.Test.YtblocggiljdamaaDoorProg
import Derived.Test.YtblocggiljdamaaDoorKit
import Derived.Test.YtblocggiljdamaaDoorRow
import Derived.Test.YtblocggiljdamaaDoorU32
import Derived.Test.YtblocggiljdamaaDoorCod5
import Derived.Test.YtblocggiljdamaaDoorCod7
import Derived.Test.YtblocggiljdamaaDoorFrm0
namespace Go.Proofs.YtblocggiljdamaaDoor
open Go.RowKit Go.Proofs

theorem crcFrom_snoc (c : UInt32) (l : List UInt8) (x : UInt8) : crcFrom c (l ++ [x]) = crcByte (crcFrom c l) x := by rw [crcFrom_append]; rfl

theorem iw_odd (c : UInt32) : (iw c % 2 = 1) ↔ (c &&& 1 = 1) := by
  have h : (c &&& 1).toNat = c.toNat % 2 := by
    rw [UInt32.toNat_and]
    exact Nat.and_one_is_mod c.toNat
  constructor
  · intro hx
    apply UInt32.toNat_inj.1
    rw [h]
    unfold iw at hx
    show _ = 1
    omega
  · intro hx
    have h2 := congrArg UInt32.toNat hx
    rw [h] at h2
    unfold iw
    have h3 : (1 : UInt32).toNat = 1 := rfl
    omega

theorem iw_shr1 (a : UInt32) : iw a / (2 : Int) = iw (a >>> 1) := iw_shr a 1 (by decide)

theorem iw_and1 (c : UInt32) : bits .and .u32 (iw c) 1 = iw (c &&& 1) := iw_and c 1

theorem iw_one {c : UInt32} (h : c &&& 1 = 1) : iw (c &&& 1) = 1 := by rw [h]; rfl

theorem iw_not1 {c : UInt32} (h : ¬ c &&& 1 = 1) : ¬ iw (c &&& 1) = 1 := fun hx => h (by
  apply UInt32.toNat_inj.1
  unfold iw at hx
  show _ = 1
  omega)

theorem iw_poly (c : UInt32) : bits .xor .u32 (iw (c >>> 1)) 3988292384 = iw ((c >>> 1) ^^^ 0xedb88320) := iw_xor (c >>> 1) 0xedb88320

theorem refcrc_any (l : List UInt8) (v : Value) (w : World) (hv : SliceAt w v (l.map byteV)) (hl : l.length ≤ 140737488351232) :
    Calls Tryd.prog 15 #[v] w fun e w' => e = .returned (wV (crcS l)) ∧ Below w.heap.size w w' := by
  obtain ⟨a, c, rfl, hc⟩ := hv
  have HC := Lib.hid hc
  clear hc
  obtain ⟨N, hN⟩ : ∃ N, N = l.length := ⟨_, rfl⟩
  have HN := Lib.hid hN
  rw [List.length_map, ← hN]
  rw [← hN] at hl
  clear hN
  go_enter Tryd.func15, Tryd.ntmps15
  go_wp2_with fail
  go_loopw [3, 4] (fun s i wr => ∃ k : Nat, k ≤ N ∧ s = .int .u32 (iw (crcFrom 0xffffffff (l.take k))) ∧ i = .int .i64 k ∧ Hid (Below w.heap.size w wr)) (fun _ i _ => N - (intOf i).toNat)
  case atStart => exact ⟨0, Nat.zero_le _, rfl, rfl, Lib.hid (Below.refl _ _)⟩
  case round =>
    obtain ⟨k, hk, rfl, rfl, HB⟩ := hrel
    obtain ⟨w1, hw1⟩ : ∃ w1 : World, w1 = wr := ⟨_, rfl⟩
    subst hw1
    by_cases hlt : k < N
    · obtain ⟨x, hx⟩ : ∃ x, l[k]? = some x := ⟨_, List.getElem?_eq_getElem (by rw [← HN.out]; exact hlt)⟩
      have hne : l.map byteV ≠ [] := by
        intro e
        have := congrArg List.length e
        rw [List.length_map, ← HN.out] at this
        simp at this
        omega
      obtain ⟨b, off, rfl, hcell⟩ := HC.out.resolve_left hne
      have hc0 := hcell k (.int .u8 (x.toNat : Int)) (by rw [List.getElem?_map, hx]; rfl)
      have hcx : w1.cell? ⟨b, off + k, none⟩ = some (.int .u8 (x.toNat : Int)) := (HB.out.cell (p := ⟨b, off + k, none⟩) (block_of_cell hc0)).trans hc0
      have HX := Lib.hid (take_succ_of hx)
      obtain ⟨s, hs⟩ : ∃ s, s = crcFrom 0xffffffff (l.take k) := ⟨_, rfl⟩
      rw [← hs]
      have HS := Lib.hid hs
      have hy : (k : Int) < (N : Int) := by omega
      have hb1 := iw_byte x
      have hb2 := iw_xor s x.toUInt32
      clear hx hne hcell hc0 hs HC hk
      go_wp2_with fail
      obtain ⟨z, hz⟩ : ∃ z, z = s ^^^ x.toUInt32 := ⟨_, rfl⟩
      have HZ : Hid (crcByte s x = crcBits 8 z) := Lib.hid (by rw [hz]; rfl)
      rw [← hz]
      clear hz hb1 hb2 hcx
      go_loopw [3, 5] (fun s i wr => ∃ j : Nat, j ≤ 8 ∧ s = .int .u32 (iw (crcBits j z)) ∧ i = .int .i64 j ∧ Hid (Below w.heap.size w wr)) (fun _ i _ => 8 - (intOf i).toNat)
      case atStart => exact ⟨0, Nat.zero_le _, rfl, rfl, HB⟩
      case round =>
        clear HB
        obtain ⟨j, hj, rfl, rfl, HB⟩ := hrel
        by_cases hl8 : j < 8
        · have hyj : (j : Int) < 8 := by omega
          obtain ⟨y, hyy⟩ : ∃ y, y = crcBits j z := ⟨_, rfl⟩
          have HY : Hid (crcBits (j + 1) z = crcBit y) := Lib.hid (by rw [hyy]; rfl)
          rw [← hyy]
          clear hyy
          have ha := iw_and1 y
          have hp := iw_poly y
          have hr := iw_shr1 y
          by_cases ho : y &&& 1 = 1
          · have ho1 := iw_one ho
            have HE : Hid (crcBit y = (y >>> 1) ^^^ 0xedb88320) := Lib.hid (by unfold crcBit; rw [if_pos ho])
            go_wp2_with fail
            go_roundw
            case rel =>
              refine ⟨j + 1, by omega, ?_, by go_num, HB⟩
              rw [HY.out, HE.out]
            case measure => simp [intOf]; omega
          · have ho1 := iw_not1 ho
            have HE : Hid (crcBit y = y >>> 1) := Lib.hid (by unfold crcBit; rw [if_neg ho])
            go_wp2_with fail
            go_roundw
            case rel =>
              refine ⟨j + 1, by omega, ?_, by go_num, HB⟩
              rw [HY.out, HE.out]
            case measure => simp [intOf]; omega
        · obtain ⟨m, hm⟩ : ∃ m, m = crcBits j z := ⟨_, rfl⟩
          have h8 : j = 8 := by omega
          have HM : Hid (m = crcByte s x) := Lib.hid (by rw [hm, h8, HZ.out])
          rw [← hm]
          have hyj : ¬ (j : Int) < 8 := by omega
          clear hm h8
          go_wp2_with fail
          go_roundw
          case rel =>
            refine ⟨k + 1, by omega, ?_, by go_num, HB⟩
            rw [HX.out, crcFrom_snoc, ← HS.out, HM.out]
          case measure => simp [intOf]; omega
    · have hk2 : k = N := by omega
      have HE : Hid (l.take k = l) := Lib.hid (by rw [hk2, HN.out]; exact List.take_length)
      have hyk : ¬ (k : Int) < (N : Int) := by omega
      rw [HE.out]
      have hnm := iw_notm (crcFrom 0xffffffff l)
      go_wp2_with fail
      go_ret
      exact ⟨rfl, HB.out⟩

end Go.Proofs.YtblocggiljdamaaDoor
