/- The checksum four bits at a time; the code's CRC over parts. -/
import Derived.BigRegion
import Derived.Lib.LaidTab
import Derived.Test.YtageldnhchgplaaGreatDoorProg
import Derived.Test.YtageldnhchgplaaGreatDoorKit
import Derived.Test.YtageldnhchgplaaGreatDoorRow
import Derived.Test.YtageldnhchgplaaGreatDoorU32
import Derived.Test.YtageldnhchgplaaGreatDoorCod5
import Derived.Test.YtageldnhchgplaaGreatDoorCod7
import Derived.Test.YtageldnhchgplaaGreatDoorFrm0
import Derived.Test.YtageldnhchgplaaGreatDoorFrm1
namespace Go.Proofs.YtageldnhchgplaaGreatDoor
open Go.RowKit Go.Proofs

def nibL : List UInt32 := [0x00000000, 0x1db71064, 0x3b6e20c8, 0x26d930ac, 0x76dc4190, 0x6b6b51f4, 0x4db26158, 0x5005713c,
  0xedb88320, 0xf00f9344, 0xd6d6a3e8, 0xcb61b38c, 0x9b64c2b0, 0x86d3d2d4, 0xa00ae278, 0xbdbdf21c]

def nib (s : UInt32) : UInt32 := (s >>> 4) ^^^ nibL.getD (s &&& 15).toNat 0

theorem odd_lsb (c : UInt32) : (c &&& 1 = 1) ↔ c.toBitVec.getLsbD 0 = true := by
  have h : (c &&& 1).toNat = c.toNat % 2 := by
    rw [UInt32.toNat_and]
    exact Nat.and_one_is_mod c.toNat
  have h2 : c.toBitVec.getLsbD 0 = decide (c.toNat % 2 = 1) := by
    rw [BitVec.getLsbD, Nat.testBit_zero]
    rfl
  rw [h2, decide_eq_true_eq, ← h]
  constructor
  · intro e; rw [e]; rfl
  · intro e; exact UInt32.toNat_inj.1 e

theorem crcBit_eq (c : UInt32) : crcBit c = (c >>> 1) ^^^ (if c.toBitVec.getLsbD 0 = true then 0xedb88320 else 0) := by
  unfold crcBit
  by_cases h : c &&& 1 = 1
  · rw [if_pos h, if_pos ((odd_lsb c).1 h)]
  · rw [if_neg h, if_neg (fun e => h ((odd_lsb c).2 e))]; simp

theorem crcBit_xor (a b : UInt32) : crcBit (a ^^^ b) = crcBit a ^^^ crcBit b := by
  rw [crcBit_eq, crcBit_eq, crcBit_eq]
  have h1 : (a ^^^ b) >>> 1 = (a >>> 1) ^^^ (b >>> 1) := by
    apply UInt32.toBitVec_inj.1
    simp [BitVec.ushiftRight_xor_distrib]
  have h2 : (a ^^^ b).toBitVec.getLsbD 0 = (a.toBitVec.getLsbD 0 ^^ b.toBitVec.getLsbD 0) := by simp
  rw [h1, h2]
  have e : ∀ x y p : UInt32, (x ^^^ p) ^^^ (y ^^^ p) = x ^^^ y := fun x y p => by
    rw [UInt32.xor_comm y p, UInt32.xor_assoc, ← UInt32.xor_assoc p, UInt32.xor_self, UInt32.zero_xor]
  cases a.toBitVec.getLsbD 0 <;> cases b.toBitVec.getLsbD 0 <;> simp
  · rw [UInt32.xor_assoc]
  · rw [UInt32.xor_assoc, UInt32.xor_assoc, UInt32.xor_comm (b >>> 1)]
  · exact (e _ _ _).symm

theorem crcBits_xor : ∀ (k : Nat) (a b : UInt32), crcBits k (a ^^^ b) = crcBits k a ^^^ crcBits k b
  | 0, _, _ => rfl
  | k + 1, a, b => by rw [crcBits, crcBits_xor k, crcBit_xor]; rfl

theorem crcBit_even {c : UInt32} (h : c.toNat % 2 = 0) : (crcBit c).toNat = c.toNat / 2 := by
  have h2 : ¬ c.toBitVec.getLsbD 0 = true := by
    have h2 : c.toBitVec.getLsbD 0 = decide (c.toNat % 2 = 1) := by
      rw [BitVec.getLsbD, Nat.testBit_zero]
      rfl
    rw [h2, h]; decide
  rw [crcBit_eq, if_neg h2]
  simp [Nat.shiftRight_eq_div_pow]

theorem crcBits_high (h : UInt32) (q : Nat) (e : h.toNat = 16 * q) : crcBits 4 h = h >>> 4 := by
  apply UInt32.toNat_inj.1
  have e1 : (crcBits 1 h).toNat = 8 * q := by
    show (crcBit h).toNat = _
    rw [crcBit_even (by omega)]; omega
  have e2 : (crcBits 2 h).toNat = 4 * q := by
    show (crcBit (crcBits 1 h)).toNat = _
    rw [crcBit_even (by omega)]; omega
  have e3 : (crcBits 3 h).toNat = 2 * q := by
    show (crcBit (crcBits 2 h)).toNat = _
    rw [crcBit_even (by omega)]; omega
  show (crcBit (crcBits 3 h)).toNat = _
  rw [crcBit_even (by omega), UInt32.toNat_shiftRight, e3, e, Nat.shiftRight_eq_div_pow]
  show _ = 16 * q / 16
  omega

theorem crcBits_low : ∀ k : Fin 16, crcBits 4 (UInt32.ofNat k.val) = nibL.getD k.val 0 := by decide +kernel

theorem crcBits_nib (s : UInt32) : crcBits 4 s = nib s := by
  have hl : (s &&& 15).toNat = s.toNat % 16 := by
    rw [UInt32.toNat_and]
    exact Nat.and_two_pow_sub_one_eq_mod s.toNat 4
  have hq : ((s >>> 4) <<< 4).toNat = 16 * (s.toNat / 16) := by
    rw [UInt32.toNat_shiftLeft, UInt32.toNat_shiftRight, Nat.shiftRight_eq_div_pow, Nat.shiftLeft_eq]
    have := s.toNat_lt
    show s.toNat / 16 * 16 % 4294967296 = _
    omega
  have hs : s = ((s >>> 4) <<< 4) ^^^ (s &&& 15) := by
    apply UInt32.toBitVec_inj.1
    ext i hi
    simp
    rcases Nat.lt_or_ge i 4 with h | h
    · simp [h]
      match i, h with
      | 0, _ => simp
      | 1, _ => simp
      | 2, _ => simp
      | 3, _ => simp
    · have : (15#32).getLsbD i = false := by
        rw [BitVec.getLsbD_ofNat]
        simp
        intro _
        exact Nat.testBit_lt_two_pow (Nat.lt_of_lt_of_le (by decide : 15 < 2 ^ 4) (Nat.pow_le_pow_right (by decide) h))
      have h15 : (15#32)[i] = false := by rw [← BitVec.getLsbD_eq_getElem]; exact this
      rw [h15]
      simp
      rw [show 4 + (i - 4) = i by omega]
      have : ¬ i < 4 := by omega
      simp [this]
      rw [← BitVec.getLsbD_eq_getElem]
  have hh : ((s >>> 4) <<< 4) >>> 4 = s >>> 4 := by
    apply UInt32.toNat_inj.1
    rw [UInt32.toNat_shiftRight, hq, UInt32.toNat_shiftRight, Nat.shiftRight_eq_div_pow, Nat.shiftRight_eq_div_pow]
    show 16 * _ / 16 = _ / 16
    omega
  have hlow : crcBits 4 (s &&& 15) = nibL.getD (s &&& 15).toNat 0 := by
    have hlt : (s &&& 15).toNat < 16 := by rw [hl]; omega
    have := crcBits_low ⟨(s &&& 15).toNat, hlt⟩
    simp only [UInt32.ofNat_toNat] at this
    exact this
  conv => lhs; rw [hs, crcBits_xor, crcBits_high _ _ hq, hh, hlow]
  rfl

theorem crcBits_add : ∀ (k j : Nat) (c : UInt32), crcBits (k + j) c = crcBits k (crcBits j c)
  | 0, j, c => by rw [Nat.zero_add]; rfl
  | k + 1, j, c => by rw [Nat.succ_add, crcBits, crcBits_add k j]; rfl

theorem crcByte_nib (c : UInt32) (b : UInt8) : crcByte c b = nib (nib (c ^^^ b.toUInt32)) := by
  unfold crcByte
  rw [crcBits_add 4 4, crcBits_nib, crcBits_nib]

def nibI : List Int := [0, 498536548, 997073096, 651767980, 1994146192, 1802195444, 1303535960, 1342533948, 3988292384, 4027552580, 3604390888, 3412177804, 2607071920, 2262029012, 2685067896, 3183342108]

theorem nibI_at : ∀ k : Fin 16, nibI.getD k.val 0 = iw (nibL.getD k.val 0) := by decide +kernel

/-- The table's place. -/
theorem Tryz.nibNamed : Tryz.prog.globalNamed "parapet/frame.nibbles" = some 0 := by kernel_rfl

def NibAt (w : World) : Prop := Lib.TabIs Tryz.prog w "parapet/frame.nibbles" .u32 nibI

theorem nib_stay {w w' : World} (h : NibAt w) (hb : Below w.heap.size w w') : NibAt w' := by
  have hg := Tryz.nibNamed
  unfold NibAt Lib.TabIs at *
  refine var?_below hb hg ?_ h
  rcases Nat.lt_or_ge 0 w.heap.size with hlt | hge
  · exact hlt
  · unfold World.var? at h
    rw [hg] at h
    simp [Array.getElem?_eq_none hge] at h

theorem nib_cell {w : World} (h : NibAt w) (s : UInt32) : ∃ q : Nat, q < 16 ∧ bits .and .u32 (iw s) 15 = (q : Int) ∧ w.cell? ⟨0, q, none⟩ = some (.int .u32 (iw (nibL.getD (s &&& 15).toNat 0))) := by
  have hq : (s &&& 15).toNat < 16 := by
    rw [UInt32.toNat_and]
    exact Nat.lt_of_le_of_lt Nat.and_le_right (by decide)
  refine ⟨(s &&& 15).toNat, hq, iw_and s 15, ?_⟩
  have := Lib.TabIs.cell h Tryz.nibNamed (s &&& 15).toNat (by simpa [nibI] using hq)
  rw [this, nibI_at ⟨_, hq⟩]

theorem iw_shr4 (a : UInt32) : iw a / (16 : Int) = iw (a >>> 4) := iw_shr a 4 (by decide)

theorem nib_xor (s : UInt32) : bits .xor .u32 (iw (s >>> 4)) (iw (nibL.getD (s &&& 15).toNat 0)) = iw (nib s) := iw_xor _ _

set_option maxHeartbeats 1000000 in
theorem crc_any (ls : List (List UInt8)) (v : Value) (w : World) (hp : PartsAt w w.heap.size v ls) (ht : NibAt w) (hl : ls.flatten.length < 4294967296) (hn : ls.length < 9223372036854775807) :
    Calls Tryz.prog 75 #[v] w fun e w' => e = .returned (wV (crcS ls.flatten)) ∧ Below w.heap.size w w' := by
  obtain ⟨A, C, rfl, hp⟩ := hp
  obtain ⟨n, hnn⟩ : ∃ n, n = ls.length := ⟨_, rfl⟩
  rw [← hnn] at hn ⊢
  have HP := Lib.hid hp
  have HT := Lib.hid ht
  have HNN := Lib.hid hnn
  have HLL := Lib.hid hl
  clear hp hnn hl ht
  go_enter Tryz.func75, Tryz.ntmps75
  go_wp2_with fail
  go_loopw [3, 10] (fun s i wr => ∃ k : Nat, k ≤ n ∧ s = .int .u32 (iw (crcFrom 0xffffffff (ls.take k).flatten)) ∧ i = .int .i64 k ∧ Hid (Below w.heap.size w wr)) (fun _ i _ => n - (intOf i).toNat)
  case atStart => exact ⟨0, Nat.zero_le _, rfl, rfl, Lib.hid (Below.refl _ _)⟩
  case round =>
    obtain ⟨k, hk, rfl, rfl, HB⟩ := hrel
    obtain ⟨w1, hw1⟩ : ∃ w1 : World, w1 = wr := ⟨_, rfl⟩
    subst hw1
    by_cases hlt : k < n
    · obtain ⟨m, hm⟩ : ∃ m, ls[k]? = some m := ⟨_, List.getElem?_eq_getElem (by rw [← HNN.out]; exact hlt)⟩
      have hne : ls ≠ [] := by intro e; have := HNN.out; rw [e] at this; simp at this; omega
      obtain ⟨b, o, rfl, hbw, hcells⟩ := HP.out.resolve_left hne
      obtain ⟨u, hu, a, c, rfl, hmc, hlies⟩ := hcells k m hm
      have hcell : w1.cell? ⟨b, o + k, none⟩ = some (.slice a m.length c) := (HB.out.cell (p := ⟨b, o + k, none⟩) hbw).trans hu
      have hle := flat_le hm
      have hml : m.length < 4294967296 := by have := HLL.out; omega
      have HF := Lib.hid (flat_succ hm)
      have HLI := Lib.hid hlies
      obtain ⟨M, hM⟩ : ∃ M, M = m.length := ⟨_, rfl⟩
      rw [← hM] at hcell hml
      have HM := Lib.hid hM
      obtain ⟨F, hFF⟩ : ∃ F, F = crcFrom 0xffffffff (ls.take k).flatten := ⟨_, rfl⟩
      rw [← hFF]
      have HFF := Lib.hid hFF
      have HKL := Lib.hid hlt
      have hy : (k : Int) < (n : Int) := by omega
      clear hm hne hcells hu hmc hlies hle hk hM hFF hlt
      go_wp2_with fail
      clear hcell
      go_loopw [3, 16] (fun s i wr => ∃ j : Nat, j ≤ M ∧ s = .int .u32 (iw (crcFrom F (m.take j))) ∧ i = .int .i64 j ∧ Hid (Below w.heap.size w wr)) (fun _ i _ => M - (intOf i).toNat)
      case atStart => exact ⟨0, Nat.zero_le _, rfl, rfl, HB⟩
      case round =>
        clear HB
        obtain ⟨j, hj, rfl, rfl, HB⟩ := hrel
        obtain ⟨w2, hw2⟩ : ∃ w2 : World, w2 = wr := ⟨_, rfl⟩
        subst hw2
        by_cases hjl : j < M
        · obtain ⟨x, hx⟩ : ∃ x, m[j]? = some x := ⟨_, List.getElem?_eq_getElem (by rw [← HM.out]; exact hjl)⟩
          have hme : m ≠ [] := by intro e; have := HM.out; rw [e] at this; simp at this; omega
          obtain ⟨b2, o2, rfl, hb2, hat⟩ := HLI.out.resolve_left hme
          have hcx : w2.cell? ⟨b2, o2 + j, none⟩ = some (.int .u8 (x.toNat : Int)) := (HB.out.cell (p := ⟨b2, o2 + j, none⟩) hb2).trans (hat j x hx)
          have HX := Lib.hid (take_succ_of hx)
          have HNB := Lib.hid (nib_stay HT.out HB.out)
          obtain ⟨s, hs⟩ : ∃ s, s = crcFrom F (m.take j) := ⟨_, rfl⟩
          rw [← hs]
          have HS := Lib.hid hs
          have hyj : (j : Int) < (M : Int) := by omega
          have hb1 := iw_byte x
          have hbx := iw_xor s x.toUInt32
          obtain ⟨z, hz⟩ : ∃ z, z = s ^^^ x.toUInt32 := ⟨_, rfl⟩
          rw [← hz] at hbx
          have HZ : Hid (crcByte s x = nib (nib z)) := Lib.hid (by rw [hz]; exact crcByte_nib s x)
          obtain ⟨q, hq, hqa, hqc⟩ := nib_cell HNB.out z
          have hz4 := iw_shr4 z
          have hzx := nib_xor z
          generalize nibL.getD (z &&& 15).toNat 0 = tz at hqc hzx
          obtain ⟨y, hy2⟩ : ∃ y, y = nib z := ⟨_, rfl⟩
          rw [← hy2] at hzx
          have HY : Hid (crcByte s x = nib y) := Lib.hid (by rw [HZ.out, hy2])
          obtain ⟨q2, hq2, hqa2, hqc2⟩ := nib_cell HNB.out y
          have hy4 := iw_shr4 y
          have hyx := nib_xor y
          generalize nibL.getD (y &&& 15).toNat 0 = ty at hqc2 hyx
          have HJL := Lib.hid hjl
          clear hx hme hat hs hz hy2 hj hjl hb2 HZ
          go_wp2_with fail
          go_roundw
          case rel =>
            have := HJL.out
            refine ⟨j + 1, by omega, ?_, by go_num, HB⟩
            rw [HX.out, crcFrom_snoc, ← HS.out, HY.out]
          case measure => have := HJL.out; simp [intOf]; omega
        · have hjm : j = M := by omega
          have HE : Hid (crcFrom F (m.take j) = crcFrom 0xffffffff (ls.take (k + 1)).flatten) := Lib.hid (by
            rw [hjm, HM.out, List.take_length, HF.out, crcFrom_append, HFF.out])
          have hyj : ¬ (j : Int) < (M : Int) := by omega
          clear hj hjm hjl
          go_wp2_with fail
          go_roundw
          case rel => have := HKL.out; exact ⟨k + 1, by omega, by rw [HE.out], by go_num, HB⟩
          case measure => have := HKL.out; simp [intOf]; omega
    · have HE : Hid (ls.take k = ls) := Lib.hid (by have := HNN.out; rw [show k = ls.length by omega]; exact List.take_length)
      have hyk : ¬ (k : Int) < (n : Int) := by omega
      rw [HE.out]
      have hnm := iw_notm (crcFrom 0xffffffff ls.flatten)
      clear hk hlt
      go_wp2_with fail
      go_ret
      exact ⟨rfl, HB.out⟩

end Go.Proofs.YtageldnhchgplaaGreatDoor
