/- awake. -/
import Derived.BigRegion
import Derived.Lib.SlBytesConst
import Derived.Deep.RegionHeld3
import Derived.Test.YtneomfhlkdpnjaaProg
import Derived.Test.YtneomfhlkdpnjaaKit
import Derived.Test.YtneomfhlkdpnjaaRow
import Derived.Test.YtneomfhlkdpnjaaCod7
import Derived.Test.YtneomfhlkdpnjaaFrm4
import Derived.Test.YtneomfhlkdpnjaaNet0
import Derived.Test.YtneomfhlkdpnjaaNet1
import Derived.Test.YtneomfhlkdpnjaaNet12
namespace Go.Proofs.Ytneomfhlkdpnjaa
open Go.RowKit Go.Proofs

/-- A literal of two packets of one byte each. -/
theorem lit_pk2 {w w1 : World} {Z : Nat → Prop} (x y : UInt8) (e e2 : TypeId) (f1 f2 : Nat × Nat) (b : Nat) (hb : b = w.heap.size) (hZ : Z b) (hZ1 : Z (b + 1)) (hZ2 : Z (b + 2))
    (hw : w1 = ((w.alloc (.cells #[byteV x] e f1)).alloc (.cells #[byteV y] e f1)).alloc (.cells #[.int .i64 1, .int .i64 2, .slice (some ⟨b, 0, none⟩) 1 1, .int .i64 2, .int .i64 1, .slice (some ⟨b + 1, 0, none⟩) 1 1] e2 f2)) :
    PksZ w1 Z (.slice (some ⟨b + 2, 0, none⟩) 2 2) [⟨1, 2, [x]⟩, ⟨2, 1, [y]⟩] ∧ Below w.heap.size w w1 := by
  subst hb hw
  refine ⟨?_, below_more (below_more (below_more (Below.refl _ _) _) _) _⟩
  have h1 : (((w.alloc (.cells #[byteV x] e f1)).alloc (.cells #[byteV y] e f1)).alloc (.cells #[.int .i64 1, .int .i64 2, .slice (some ⟨w.heap.size, 0, none⟩) 1 1, .int .i64 2, .int .i64 1, .slice (some ⟨w.heap.size + 1, 0, none⟩) 1 1] e2 f2)).heap[w.heap.size]? = some (.cells #[byteV x] e f1) := by
    rw [(below_more (below_more (Below.refl _ (w.alloc (.cells #[byteV x] e f1))) _) _).block w.heap.size (by simp)]
    exact heap_alloc_new w _
  have h2 : (((w.alloc (.cells #[byteV x] e f1)).alloc (.cells #[byteV y] e f1)).alloc (.cells #[.int .i64 1, .int .i64 2, .slice (some ⟨w.heap.size, 0, none⟩) 1 1, .int .i64 2, .int .i64 1, .slice (some ⟨w.heap.size + 1, 0, none⟩) 1 1] e2 f2)).heap[w.heap.size + 1]? = some (.cells #[byteV y] e f1) := by
    rw [(below_more (Below.refl _ ((w.alloc (.cells #[byteV x] e f1)).alloc (.cells #[byteV y] e f1))) _).block (w.heap.size + 1) (by simp)]
    have := heap_alloc_new (w.alloc (.cells #[byteV x] e f1)) (.cells #[byteV y] e f1)
    simpa using this
  have h3 : (((w.alloc (.cells #[byteV x] e f1)).alloc (.cells #[byteV y] e f1)).alloc (.cells #[.int .i64 1, .int .i64 2, .slice (some ⟨w.heap.size, 0, none⟩) 1 1, .int .i64 2, .int .i64 1, .slice (some ⟨w.heap.size + 1, 0, none⟩) 1 1] e2 f2)).heap[w.heap.size + 2]? = some (.cells #[.int .i64 1, .int .i64 2, .slice (some ⟨w.heap.size, 0, none⟩) 1 1, .int .i64 2, .int .i64 1, .slice (some ⟨w.heap.size + 1, 0, none⟩) 1 1] e2 f2) := by
    have := heap_alloc_new ((w.alloc (.cells #[byteV x] e f1)).alloc (.cells #[byteV y] e f1)) (.cells #[.int .i64 1, .int .i64 2, .slice (some ⟨w.heap.size, 0, none⟩) 1 1, .int .i64 2, .int .i64 1, .slice (some ⟨w.heap.size + 1, 0, none⟩) 1 1] e2 f2)
    simpa using this
  refine ⟨_, 2, rfl, .inr ⟨_, 0, rfl, hZ2, fun j p hj => ?_⟩⟩
  match j, hj with
  | 0, hj =>
    simp at hj
    subst hj
    refine ⟨.slice (some ⟨w.heap.size, 0, none⟩) 1 1, fun i y hi => ?_, .inr ⟨_, 1, rfl, Nat.le_refl _, .inr ⟨w.heap.size, 0, rfl, hZ, fun i y hi => ?_⟩⟩, by simp⟩
    · rw [cell_of_row _ _ _ _ e2 f2 h3]
      match i, hi with
      | 0, hi => simpa using hi
      | 1, hi => simpa using hi
      | 2, hi => simpa using hi
      | i + 3, hi => simp at hi
    · rw [cell_of_row _ _ _ _ e f1 h1]
      match i, hi with
      | 0, hi => simp at hi; subst hi; rfl
      | i + 1, hi => simp at hi
  | 1, hj =>
    simp at hj
    subst hj
    refine ⟨.slice (some ⟨w.heap.size + 1, 0, none⟩) 1 1, fun i y hi => ?_, .inr ⟨_, 1, rfl, Nat.le_refl _, .inr ⟨w.heap.size + 1, 0, rfl, hZ1, fun i y hi => ?_⟩⟩, by simp⟩
    · rw [cell_of_row _ _ _ _ e2 f2 h3]
      match i, hi with
      | 0, hi => simpa using hi
      | 1, hi => simpa using hi
      | 2, hi => simpa using hi
      | i + 3, hi => simp at hi
    · rw [cell_of_row _ _ _ _ e f1 h2]
      match i, hi with
      | 0, hi => simp at hi; subst hi; rfl
      | i + 1, hi => simp at hi
  | j + 2, hj => simp at hj

set_option maxRecDepth 100000 in
set_option maxHeartbeats 1000000 in
theorem nawake_any (w : World) : Calls Try.prog 11 #[] w fun e w' => e = .returned (.bool true) ∧ Below w.heap.size w w' := by
  have kc : ∀ (W : World) (C : Array Value) (n c g : Nat), g = W.heap.size → (convert 50 50 (.slice (some ⟨g, 0, none⟩) n c)).run Try.prog (W.alloc (.cells C 5)) = .ok (.slice (some ⟨g, 0, none⟩) n c) (W.alloc (.cells C 5 (C.size, C.size + 1))) := fun W C n c g hg => by
    subst hg
    exact Lib.run_convert_bytes_const (P := Try.prog) W 50 5 C n c Try.underlying50 Try.underlying5
  have hz := zero_cells Try.infoPkz
  go_enter Try.func11, Try.ntmps11
  go_wp2_with fail
  refine (nnew_any w).mono ?_
  rintro e w1 ⟨rfl, hw1⟩
  have hn1 := nin_new w
  rw [← hw1] at hn1
  obtain ⟨g, hg⟩ : ∃ g, g = w.heap.size := ⟨_, rfl⟩
  rw [← hg] at hn1 ⊢
  have HN1 := Lib.hid hn1
  clear hw1 hn1 hg
  go_wp2_with fail
  obtain ⟨w2, hw2⟩ : ∃ w2, w2 = ((w1.alloc (.cells #[byteV 97] 5 (1, 2))).alloc (.cells #[byteV 98] 5 (1, 2))).alloc (.cells #[.int .i64 1, .int .i64 2, .slice (some ⟨w1.heap.size, 0, none⟩) 1 1, .int .i64 2, .int .i64 1, .slice (some ⟨w1.heap.size + 1, 0, none⟩) 1 1] 52) := ⟨_, rfl⟩
  obtain ⟨hz2, hb2⟩ := lit_pk2 (Z := fun k => k < w.heap.size ∨ w1.heap.size ≤ k) 97 98 5 52 (1, 2) (0, 0) w1.heap.size rfl (.inr (Nat.le_refl _)) (.inr (by omega)) (.inr (by omega)) hw2
  have hs := nin_send HN1.out hb2 hz2 (by simp) (by simp)
  rw [show sendM [] [(⟨1, 2, [97]⟩ : PkM), ⟨2, 1, [98]⟩] = (2, [⟨1, 2, [97]⟩, ⟨2, 1, [98]⟩]) by kernel_rfl] at hs
  dsimp only at hs
  have hw2' : w2 = ((w1.alloc (.cells #[.int .u8 97] 5 (1, 2))).alloc (.cells #[.int .u8 98] 5 (1, 2))).alloc (.cells #[.int .i64 1, .int .i64 2, .slice (some ⟨w1.heap.size, 0, none⟩) 1 1, .int .i64 2, .int .i64 1, .slice (some ⟨w1.heap.size + 1, 0, none⟩) 1 1] 52) := hw2
  rw [← hw2']
  refine hs.mono ?_
  clear hs hw2 hw2' hz2 hb2
  rintro e w3 ⟨rfl, hn3, _⟩
  have hd := nin_deliver hn3 (k := 1) (p := ⟨2, 1, [98]⟩) rfl (by decide)
  have HD := Lib.hid hd
  clear hd hn3
  go_wp2_with fail
  refine (HD.out).mono ?_
  clear HD
  rintro e w4 ⟨a4, c4, rfl, ho4, hn4, _⟩
  have hn5 := nin_below hn4 (below_more (Below.refl _ _) (.cells #[.int .i64 2, .int .i64 1, .slice a4 1 c4] 52))
  have ho5 := own_below ho4 (below_more (Below.refl _ w4) (.cells #[.int .i64 2, .int .i64 1, .slice a4 1 c4] 52))
  have hr5 : Rw (w4.alloc (.cells #[.int .i64 2, .int .i64 1, .slice a4 1 c4] 52)) 0 w4.heap.size 52 [.int .i64 2, .int .i64 1, .slice a4 1 c4] := Rw.alloc w4 _ _ (Nat.zero_le _)
  have hd := nin_deliver hn5 (k := 0) (p := ⟨1, 2, [97]⟩) rfl (by decide)
  have HD := Lib.hid hd
  have HO5 := Lib.hid ho5
  have HR5 := Lib.hid hr5
  have HL5 : Hid (w4.heap.size < (w4.alloc (.cells #[.int .i64 2, .int .i64 1, .slice a4 1 c4] 52)).heap.size) := Lib.hid (by simp)
  clear hd hn5 ho5 hr5 ho4 hn4
  dsimp only
  go_wp2_with (first | (refine wpList_alloc_z rfl 52 rfl #[.int .i64 0, .int .i64 0, .slice none 0 0] hz ?_) | fail)
  refine (HD.out).mono ?_
  clear HD
  rintro e w6 ⟨a6, c6, rfl, ho6, hn6, hst⟩
  have hr6 : Rw w6 0 w4.heap.size 52 [.int .i64 2, .int .i64 1, .slice a4 1 c4] := ⟨Nat.zero_le _, (hst.1 w4.heap.size (.inr ⟨Nat.le_refl _, HL5.out⟩)).trans HR5.out.2⟩
  have ho46 := hst.2 _ _ _ HO5.out
  have hb7 := below_more (Below.refl _ w6) (.cells #[.int .i64 1, .int .i64 2, .slice a6 1 c6] 52)
  have hn7 := nin_below hn6 hb7
  have HLN := Lib.hid (nin_len hn7)
  have HBW := Lib.hid (nin_all hn7)
  have e7 : (w6.alloc (.cells #[.int .i64 1, .int .i64 2, .slice a6 1 c6] 52)).cell? ⟨w4.heap.size, 2, none⟩ = some (.slice a4 1 c4) := Rw.cell (Rw.below hr6 hb7) rfl
  have k4 : (convert 50 9 (.slice a4 1 c4)).run Try.prog (w6.alloc (.cells #[.int .i64 1, .int .i64 2, .slice a6 1 c6] 52)) = .ok (.string ⟨#[98]⟩) (w6.alloc (.cells #[.int .i64 1, .int .i64 2, .slice a6 1 c6] 52)) := run_convert_own (P := Try.prog) 50 5 9 Try.underlying50 Try.underlying5 Try.underlying9 (xs := [98]) (own_below ho46 hb7)
  have k6 : (convert 50 9 (.slice a6 1 c6)).run Try.prog (w6.alloc (.cells #[.int .i64 1, .int .i64 2, .slice a6 1 c6] 52)) = .ok (.string ⟨#[97]⟩) (w6.alloc (.cells #[.int .i64 1, .int .i64 2, .slice a6 1 c6] 52)) := run_convert_own (P := Try.prog) 50 5 9 Try.underlying50 Try.underlying5 Try.underlying9 (xs := [97]) (own_below ho6 hb7)
  clear hr6 ho46 hb7 hn7 hst hn6 ho6 HR5 HO5 HL5
  dsimp only
  go_wp2_with (first | (refine wpList_alloc_z rfl 52 rfl #[.int .i64 0, .int .i64 0, .slice none 0 0] hz ?_) | fail)
  refine (HLN.out).mono ?_
  rintro e w8 ⟨rfl, rfl⟩
  go_wp2_with fail
  go_ret
  exact ⟨rfl, HBW.out⟩

end Go.Proofs.Ytneomfhlkdpnjaa
