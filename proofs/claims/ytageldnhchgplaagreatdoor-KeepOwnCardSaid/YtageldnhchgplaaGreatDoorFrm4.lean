/- Numbers of four bytes: the code's number and setNumber; a made row with room; the checksum of a frame. -/
import Derived.BigRegion
import Derived.Deep.RegionHeld3
import Derived.Test.YtageldnhchgplaaGreatDoorProg
import Derived.Test.YtageldnhchgplaaGreatDoorKit
import Derived.Test.YtageldnhchgplaaGreatDoorRow
import Derived.Test.YtageldnhchgplaaGreatDoorU32
import Derived.Test.YtageldnhchgplaaGreatDoorSha
import Derived.Test.YtageldnhchgplaaGreatDoorCod2
import Derived.Test.YtageldnhchgplaaGreatDoorCod5
import Derived.Test.YtageldnhchgplaaGreatDoorCod7
import Derived.Test.YtageldnhchgplaaGreatDoorCod8
import Derived.Test.YtageldnhchgplaaGreatDoorFrm0
import Derived.Test.YtageldnhchgplaaGreatDoorFrm2
import Derived.Test.YtageldnhchgplaaGreatDoorFrm3
namespace Go.Proofs.YtageldnhchgplaaGreatDoor
open Go.RowKit Go.Proofs

def w4 (a b c d : UInt8) : UInt32 := a.toUInt32 <<< 24 ||| b.toUInt32 <<< 16 ||| c.toUInt32 <<< 8 ||| d.toUInt32

/-- Bytes written over others. -/
def putS (l : List UInt8) (o : Nat) (m : List UInt8) : List UInt8 := l.take o ++ m ++ l.drop (o + m.length)

theorem putS_nil (l : List UInt8) (o : Nat) : putS l o [] = l := by simp [putS]

theorem putS_set {l m : List UInt8} {o k : Nat} {y : UInt8} (hk : m[k]? = some y) (hl : o + k < l.length) : (putS l o (m.take k)).set (o + k) y = putS l o (m.take (k + 1)) := by
  have hkl : k < m.length := (List.getElem?_eq_some_iff.1 hk).1
  have e1 : (m.take k).length = k := by rw [List.length_take]; omega
  have e2 : (m.take (k + 1)).length = k + 1 := by rw [List.length_take]; omega
  have e3 : (l.take o ++ m.take k).length = o + k := by rw [List.length_append, e1, List.length_take]; omega
  unfold putS
  rw [e1, e2, take_succ_of hk, ← e3, List.set_append_right _ _ (Nat.le_refl _), Nat.sub_self, e3, List.drop_eq_getElem_cons hl, List.set_cons_zero, Nat.add_assoc]
  simp

theorem be4_at (v : Nat) {k : Nat} (hk : k < 4) : (be4 v)[k]? = some (UInt8.ofNat (v / 256 ^ (3 - k))) := by
  rw [be4_eq]
  match k, hk with
  | 0, _ => rfl
  | 1, _ => rfl
  | 2, _ => rfl
  | 3, _ => simp

theorem setnum_any (B g o n c N C : Nat) (l : List UInt8) (x : UInt32) (w : World) (hw : w.ownsRow B 5 1 (.slice (some ⟨g, 0, none⟩) N C) N (l.map byteV)) (hB : B ≤ g) (ho : o + 4 ≤ N) (hn : 4 ≤ n) :
    Calls Tryz.prog 66 #[.slice (some ⟨g, o, none⟩) n c, .int .u32 (iw x)] w fun e w' => e = .returned (.tuple #[]) ∧ w'.ownsRow B 5 1 (.slice (some ⟨g, 0, none⟩) N C) N ((putS l o (be4 x.toNat)).map byteV) ∧ Below B w w' := by
  have hlen : l.length = N := by have := hw.1; simpa using this
  have HW : Hid (w.ownsRow B 5 1 (.slice (some ⟨g, 0, none⟩) N C) N ((putS l o ((be4 x.toNat).take 0)).map byteV)) := Lib.hid (by rw [List.take_zero, putS_nil]; exact hw)
  have HLEN := Lib.hid hlen
  have HBG := Lib.hid hB
  have HON := Lib.hid ho
  clear hw hlen hB ho
  go_enter Tryz.func66, Tryz.ntmps66
  go_wp2_with fail
  go_loopw [5] (fun i wr => ∃ k : Nat, k ≤ 4 ∧ i = .int .i64 k ∧ Hid (wr.ownsRow B 5 1 (.slice (some ⟨g, 0, none⟩) N C) N ((putS l o ((be4 x.toNat).take k)).map byteV)) ∧ Hid (Below B w wr)) (fun i _ => 4 - (intOf i).toNat)
  case atStart => exact ⟨0, Nat.zero_le _, rfl, HW, Lib.hid (Below.refl _ _)⟩
  case round =>
    clear HW
    obtain ⟨k, hk, rfl, HW, HB⟩ := hrel
    obtain ⟨w1, hw1⟩ : ∃ w1 : World, w1 = wr := ⟨_, rfl⟩
    subst hw1
    by_cases hlt : k < 4
    · have hlen := HLEN.out
      have ho := HON.out
      have hpl : (putS l o ((be4 x.toNat).take k)).length = N := by
        have := HW.out.1
        simpa using this
      obtain ⟨y, hy⟩ : ∃ y, (putS l o ((be4 x.toNat).take k))[o + k]? = some y := ⟨_, List.getElem?_eq_getElem (by omega)⟩
      have cx : w1.cell? ⟨g, o + k, none⟩ = some (.int .u8 (y.toNat : Int)) := (HW.out.cellAt (o + k) (by omega)).trans (by rw [List.getElem?_map, hy]; rfl)
      have fx : w1.frozen? ⟨g, o + k, none⟩ = false := HW.out.frozenAt (o + k)
      obtain ⟨j, hj⟩ : ∃ j, j = 3 - k := ⟨_, rfl⟩
      have hsub : (3 : Int) - (k : Int) = (j : Int) := by omega
      have hj8 : (j : Int) < 4 := by omega
      have HV : Hid (Value.int .u8 (iw x / 2 ^ (8 * j) % 256) = byteV (UInt8.ofNat (x.toNat / 256 ^ j))) := Lib.hid (lay_byte x.toNat j)
      have HS := Lib.hid (putS_set (l := l) (o := o) (be4_at x.toNat hlt) (by omega))
      rw [← hj] at HS
      have hyk : (k : Int) < 4 := by omega
      have hyn : (k : Int) < (n : Int) := by omega
      have HKL := Lib.hid hlt
      clear hpl hy hj hlt hk hlen ho
      go_wp2_with fail
      go_roundw
      case rel =>
        have hlt := HKL.out
        refine ⟨k + 1, by omega, by go_num, Lib.hid ?_, Lib.hid ?_⟩
        · have h := (HW.out.stored (o + k) (byteV (UInt8.ofNat (x.toNat / 256 ^ j)))).1
          rw [← List.map_set, HS.out] at h
          rw [HV.out]
          exact h
        · exact HB.out.setCell HBG.out _
      case measure => have := HKL.out; simp [intOf]; omega
    · have hk4 : k = 4 := by omega
      have HW2 : Hid (w1.ownsRow B 5 1 (.slice (some ⟨g, 0, none⟩) N C) N ((putS l o (be4 x.toNat)).map byteV)) := Lib.hid (by
        have h := HW.out
        rw [hk4, List.take_of_length_le (by rw [be4_len]; omega)] at h
        exact h)
      have hyk : ¬ (k : Int) < 4 := by omega
      clear hk4 hlt hk HW
      go_wp2
      go_end0
      exact ⟨rfl, HW2.out, HB.out⟩

theorem lies_drop {w : World} {B b o cap n : Nat} {l : List UInt8} (hb : b < B) (h : ByAt w b o l) (hn : n ≤ l.length) (hc : l.length ≤ cap) : Lies w B (if cap = n then some ⟨b, o, none⟩ else some ⟨b, o + n, none⟩) (l.drop n) := by
  by_cases he : cap = n
  · exact .inl (List.drop_of_length_le (by omega))
  · rw [if_neg he]
    refine .inr ⟨b, o + n, rfl, hb, fun j x hj => ?_⟩
    rw [List.getElem?_drop] at hj
    rw [Nat.add_assoc]
    exact h (n + j) x hj

theorem byAt_take {w : World} {b o : Nat} {l : List UInt8} (h : ByAt w b o l) (n : Nat) : ByAt w b o (l.take n) := fun j x hj => by
  rw [List.getElem?_take] at hj
  split at hj
  · exact h j x hj
  · cases hj

theorem checksum_any (b o N c : Nat) (l : List UInt8) (w : World) (hl : l.length = N) (hat : ByAt w b o l) (hb : b < w.heap.size) (h8 : 8 ≤ N) (hc : N ≤ c) (hN : N < 4294967296) (ht : NibAt w) :
    Calls Tryz.prog 67 #[.slice (some ⟨b, o, none⟩) N c] w fun e w' => e = .returned (wV (crcS (l.take 4 ++ l.drop 8))) ∧ Below w.heap.size w w' := by
  have hs4 : ∀ W, (Instr.slice 29 (.slice (some ⟨b, o, none⟩) N c) none (some (.int .i64 4)) none).run Tryz.prog W = .ok (.slice (some ⟨b, o, none⟩) 4 c) W := fun W => by
    rw [run_slice_h W 29 (some ⟨b, o, none⟩) N c (by kernel_rfl) .i64 4 (by omega) (by omega), run_size1 (by kernel_rfl)]
    simp [Result.andThen, sliced, Addr.add_mid]
  have hs8 : ∀ W, (Instr.slice 29 (.slice (some ⟨b, o, none⟩) N c) (some (.int .i64 8)) none none).run Tryz.prog W = .ok (.slice (if c = 8 then some ⟨b, o, none⟩ else some ⟨b, o + 8, none⟩) (N - 8) (c - 8)) W := fun W =>
    slice_from (by kernel_rfl) (by kernel_rfl) b o N c 8 h8 W
  have hd := lies_drop (cap := c) (n := 8) hb hat (by omega) (by omega)
  have htk : Lies w w.heap.size (some ⟨b, o, none⟩) (l.take 4) := .inr ⟨b, o, rfl, hb, byAt_take hat 4⟩
  generalize (if c = 8 then some (⟨b, o, none⟩ : Addr) else some ⟨b, o + 8, none⟩) = A8 at hs8 hd
  have HD := Lib.hid hd
  have HK := Lib.hid htk
  have HL := Lib.hid hl
  have HC := Lib.hid hc
  have HN := Lib.hid hN
  have H8 := Lib.hid h8
  have HT := Lib.hid ht
  have hW1 : Below w.heap.size w (w.alloc (.cells #[.slice (some ⟨b, o, none⟩) 4 c, .slice A8 (N - 8) (c - 8)] 29)).drew := below_draws (below_more (Below.refl _ _) _) ⟨1, rfl⟩
  have hpa : PartsAt (w.alloc (.cells #[.slice (some ⟨b, o, none⟩) 4 c, .slice A8 (N - 8) (c - 8)] 29)) (w.alloc (.cells #[.slice (some ⟨b, o, none⟩) 4 c, .slice A8 (N - 8) (c - 8)] 29)).heap.size (.slice (some ⟨w.heap.size, 0, none⟩) 2 2) [l.take 4, l.drop 8] := by
    refine parts_alloc w _ _ _ [l.take 4, l.drop 8] (fun j m hj => ?_) 2
    match j, hj with
    | 0, hj =>
      cases hj
      exact ⟨_, rfl, some ⟨b, o, none⟩, c, by rw [List.length_take, Nat.min_eq_left (by omega)]; rfl, by rw [List.length_take]; omega, HK.out⟩
    | 1, hj =>
      cases hj
      exact ⟨_, rfl, A8, c - 8, by rw [List.length_drop, hl]; rfl, by rw [List.length_drop]; omega, HD.out⟩
  have HPA := Lib.hid (PartsAt.later hpa (below_draws (Below.refl _ _) ⟨1, rfl⟩ : Below _ _ (w.alloc (.cells #[.slice (some ⟨b, o, none⟩) 4 c, .slice A8 (N - 8) (c - 8)] 29)).drew))
  have HB1 := Lib.hid hW1
  have HNB := Lib.hid (nib_stay HT.out (hW1))
  have HL2 : Hid (([l.take 4, l.drop 8] : List (List UInt8)).length < 9223372036854775807) := Lib.hid (by simp)
  have HLN : Hid (([l.take 4, l.drop 8] : List (List UInt8)).flatten.length < 4294967296) := Lib.hid (by
    simp only [List.flatten_cons, List.flatten_nil, List.append_nil, List.length_append, List.length_take, List.length_drop]
    omega)
  clear hat hd htk hl hc hN h8 ht hb hpa hW1
  go_enter Tryz.func67, Tryz.ntmps67
  go_wp2_with fail
  go_region_with (go_at_call 75; refine (crc_any [l.take 4, l.drop 8] _ _ HPA.out HNB.out HLN.out HL2.out).mono ?_; rintro e w' ⟨rfl, hb⟩)
  have HB2 := Lib.hid (below_then HB1.out hb)
  clear hb
  go_wp2
  go_ret
  exact ⟨rfl, HB2.out⟩

end Go.Proofs.YtageldnhchgplaaGreatDoor
