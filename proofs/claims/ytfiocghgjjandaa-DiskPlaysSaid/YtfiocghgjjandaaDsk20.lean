/- Picks that came in; the law's bytes; one file's disk. -/
import Derived.BigRegion
import Derived.Deep.RegionHeld3
import Derived.Stop.BytesEq
import Derived.Test.YtfiocghgjjandaaProg
import Derived.Test.YtfiocghgjjandaaKit
import Derived.Test.YtfiocghgjjandaaInfo
import Derived.Test.YtfiocghgjjandaaRow
import Derived.Test.YtfiocghgjjandaaCod5
import Derived.Test.YtfiocghgjjandaaCod7
import Derived.Test.YtfiocghgjjandaaDsk14
namespace Go.Proofs.Ytfiocghgjjandaa
open Go.ChangeShapes Go.WideShapes Go.RowKit Go.Proofs Go.Maps

theorem pickAt_below {w w' : World} {v : Value} {ps : List Int} (h : PickAt w v ps) (hb : Below w.heap.size w w') : PickAt w' v ps := by
  obtain ⟨a, c, rfl, hc, hl⟩ := h
  refine ⟨a, c, rfl, hc, ?_⟩
  rcases hl with h | ⟨b, o, ha, h⟩
  · exact .inl h
  · exact .inr ⟨b, o, ha, fun j p hj => (hb.cell (p := ⟨b, o + j, none⟩) (block_of_cell (h j p hj))).trans (h j p hj)⟩

/-- Bytes that hang on a number. -/
def byteL (c n : Nat) : List UInt8 := (List.range n).map (fun i => (c + i).toUInt8)

theorem byteL_len (c n : Nat) : (byteL c n).length = n := by simp [byteL]

theorem byteL_set (c : Nat) {n k : Nat} (hk : k < n) : ((byteL c k ++ List.replicate (n - k) 0).map byteV).set k (byteV (c + k).toUInt8) = (byteL c (k + 1) ++ List.replicate (n - (k + 1)) 0).map byteV := by
  rw [show n - k = n - (k + 1) + 1 by omega, List.replicate_succ, List.map_append, List.set_append, if_neg (by rw [List.length_map, byteL_len]; omega)]
  rw [List.length_map, byteL_len, Nat.sub_self, List.map_cons, List.set_cons_zero, List.map_append]
  unfold byteL
  rw [List.range_succ, List.map_append, List.map_append, List.append_assoc]
  rfl

theorem byteL_val (c k : Nat) : (((c + k).toUInt8.toNat : Nat) : Int) = ((c : Int) + (k : Int)) % 256 := by
  rw [Nat.toUInt8_eq, UInt8.toNat_ofNat']
  omega

set_option maxHeartbeats 1000000 in
theorem dbytes_any (z : Int) (n c : Nat) (w : World) (hz : max z 0 = (n : Int)) (hn : n < 4294967296) (hc : c < 4294967296) :
    Calls Try.prog 14 #[.int .i64 z, .int .i64 c] w fun e w' => ∃ g, e = .returned (.slice (some ⟨g, 0, none⟩) n n) ∧ w'.ownsRow w.heap.size 5 1 (.slice (some ⟨g, 0, none⟩) n n) n ((byteL c n).map byteV) ∧ Below w.heap.size w w' := by
  obtain ⟨i0, hi, hz0, hz1, hz2⟩ := info_parts Try.infoByte
  have hn1 : (n : Int) < 4294967296 := by omega
  have hc1 : (c : Int) < 4294967296 := by omega
  have HN := Lib.hid hn
  have hz' : max 0 z = (n : Int) := by omega
  clear hn hc
  go_enter Try.func14, Try.ntmps14
  by_cases hsg : z ≤ 0
  all_goals
    have hval : ∃ m : Int, m = max z 0 := ⟨_, rfl⟩
    go_wp2_with (first | (refine wpList_make1 w rfl _ _ 40 rfl 5 i0 (.int .u8 0) 1 Try.underlying40 hi hz0 hz1 hz2 rfl .i64 .i64 _ _ n rfl rfl (by omega) (by omega) (by have := HN.out; omega) (by decide) ?_; intro w1 hown1 hb1) | fail)
    obtain ⟨g, hg⟩ : ∃ g, g = w.heap.size := ⟨_, rfl⟩
    have ho1 : w1.ownsRow w.heap.size 5 1 (.slice (some ⟨g, 0, none⟩) n n) n ((byteL c 0 ++ List.replicate (n - 0) 0).map byteV) := by
      rw [hg]
      simpa [byteV, byteL] using hown1
    have HO := Lib.hid ho1
    have HB := Lib.hid hb1
    have HG := Lib.hid hg
    simp only [← hg]
    clear hown1 hb1 ho1 hg hz hz' hsg hval
    go_loopw [6] (fun i wr => ∃ k : Nat, k ≤ n ∧ i = .int .i64 k ∧ Hid (wr.ownsRow w.heap.size 5 1 (.slice (some ⟨g, 0, none⟩) n n) n ((byteL c k ++ List.replicate (n - k) 0).map byteV)) ∧ Hid (Below w.heap.size w wr)) (fun i _ => n - (intOf i).toNat)
    case atStart => exact ⟨0, Nat.zero_le _, rfl, HO, HB⟩
    case round =>
      clear HO HB
      obtain ⟨k, hk, rfl, HO, HB⟩ := hrel
      obtain ⟨w3, hw3⟩ : ∃ w3 : World, w3 = wr := ⟨_, rfl⟩
      subst hw3
      by_cases hlt : k < n
      · have hc0 : w3.cell? ⟨g, k, none⟩ = some (.int .u8 0) := (HO.out.cellAt k (by omega)).trans (by
          rw [List.getElem?_map, List.getElem?_append_right (by rw [byteL_len]; omega), List.getElem?_replicate, if_pos (by rw [byteL_len]; omega)]
          rfl)
        have hf0 := HO.out.frozenAt k
        have hy : (k : Int) < (n : Int) := by omega
        have HKL := Lib.hid hlt
        clear hk
        go_wp2_with fail
        go_roundw
        case rel =>
          have hk := HKL.out
          refine ⟨k + 1, by omega, by go_num, Lib.hid ?_, Lib.hid (HB.out.setCell (by show _ ≤ g; rw [HG.out]; exact Nat.le_refl _) _)⟩
          have h := (HO.out.stored k (byteV (c + k).toUInt8)).1
          rw [byteL_set c hk] at h
          unfold byteV at h
          rw [byteL_val] at h
          exact h
        case measure => have := HKL.out; simp [intOf]; omega
      · have hka : k = n := by omega
        have ho := HO.out
        rw [hka, Nat.sub_self, List.replicate_zero, List.append_nil] at ho
        have HO2 := Lib.hid ho
        have hy : ¬ (k : Int) < (n : Int) := by omega
        clear hka ho hk HO hn1 hc1 hlt
        go_wp2_with fail
        go_ret
        exact ⟨g, rfl, HO2.out, HB.out⟩

end Go.Proofs.Ytfiocghgjjandaa
