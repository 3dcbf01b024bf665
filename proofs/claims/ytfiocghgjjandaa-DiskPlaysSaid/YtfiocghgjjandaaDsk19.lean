/- awake. -/
import Derived.BigRegion
import Derived.Lib.SlBytesConst
import Derived.Deep.RegionHeld3
import Derived.Test.YtfiocghgjjandaaProg
import Derived.Test.YtfiocghgjjandaaKit
import Derived.Test.YtfiocghgjjandaaRow
import Derived.Test.YtfiocghgjjandaaCod7
import Derived.Test.YtfiocghgjjandaaFrm4
import Derived.Test.YtfiocghgjjandaaDsk0
import Derived.Test.YtfiocghgjjandaaDsk6
import Derived.Test.YtfiocghgjjandaaDsk7
import Derived.Test.YtfiocghgjjandaaDsk9
import Derived.Test.YtfiocghgjjandaaDsk12
import Derived.Test.YtfiocghgjjandaaDsk13
import Derived.Test.YtfiocghgjjandaaDsk14
import Derived.Test.YtfiocghgjjandaaDsk17
import Derived.Test.YtfiocghgjjandaaDsk18
namespace Go.Proofs.Ytfiocghgjjandaa
open Go.RowKit Go.Proofs Go.Maps

def awC (b : List UInt8) : CodM := ⟨100, [⟨[97], b, b.length⟩], 0, false, 0⟩

def awD (b : List UInt8) (syn ops : Nat) : CodM := ⟨100, [⟨[97], b, syn⟩], ops, false, 0⟩

theorem pick_lit (w : World) (p : Int) (e : TypeId) (f1 : Nat × Nat) (b : Nat) (hb : b = w.heap.size) : PickAt (w.alloc (.cells #[.int .i64 p] e f1)) (.slice (some ⟨b, 0, none⟩) 1 1) [p] := by
  refine ⟨_, _, rfl, Nat.le_refl _, .inr ⟨b, 0, rfl, fun j q hj => ?_⟩⟩
  cases j with
  | zero =>
    simp at hj
    subst hj hb
    rw [cell_of_row _ _ _ _ e f1 (heap_alloc_new w _)]
    rfl
  | succ j => simp at hj

theorem dIn_new0 {w w1 : World} {room : Nat} (hw : w1 = w.alloc (.cells #[.int .i64 room, .map none, .int .i64 0, .bool false, .int .i64 0] 47)) : DIn w w1 (fun _ => False) w.heap.size (newM room) :=
  dIn_less (dIn_made (codAt_new hw) (Below.refl _ _) (by rw [hw]; exact below_more (Below.refl _ _) _)) (fun _ h => h.elim)

theorem awD_names (b : List UInt8) (syn ops : Nat) : ∀ f ∈ (awD b syn ops).fs, f.name.length ≤ maxLen := fun f hf => by
  simp [awD] at hf
  subst hf
  show 1 ≤ maxLen
  decide

set_option maxHeartbeats 1000000 in
theorem dawake_any (w : World) : Calls Try.prog 5 #[] w fun e w' => e = .returned (.bool true) ∧ Below w.heap.size w w' := by
  go_enter Try.func5, Try.ntmps5
  go_wp2_with fail
  refine (dnew_any 100 w (by omega) (by omega)).mono ?_
  rintro e w1 h1
  rcases h1 with ⟨h1, _⟩ | ⟨_, _, rfl, hw1⟩
  · exact absurd ⟨by omega, by omega⟩ h1
  obtain ⟨g, hg⟩ : ∃ g, g = w.heap.size := ⟨_, rfl⟩
  have hd1 := dIn_new0 (room := 100) hw1
  rw [← hg] at hd1 ⊢
  have HD1 := Lib.hid hd1
  have HA1 : Hid (appM (newM 100) [97] [97, 98, 99] = (0, awD [97, 98, 99] 0 1)) := Lib.hid (by kernel_rfl)
  have HS2 : Hid (synM (awD [97, 98, 99] 0 1) [⟨#[97]⟩] = (0, awD [97, 98, 99] 3 2)) := Lib.hid (by kernel_rfl)
  have HA3 : Hid (appM (awD [97, 98, 99] 3 2) [97] [100, 101] = (0, awD [97, 98, 99, 100, 101] 3 3)) := Lib.hid (by kernel_rfl)
  have HK0 : Hid (CodOk (newM 100)) := Lib.hid (by unfold CodOk; decide)
  have HK1 : Hid (CodOk (awD [97, 98, 99] 0 1)) := Lib.hid (by unfold CodOk; decide)
  have HK2 : Hid (CodOk (awD [97, 98, 99] 3 2)) := Lib.hid (by unfold CodOk; decide)
  have HK3 : Hid (CodOk (awD [97, 98, 99, 100, 101] 3 3)) := Lib.hid (by unfold CodOk; decide)
  clear hw1 hg hd1
  have kc : ∀ (W : World) (C : Array Value) (n c g : Nat), g = W.heap.size → (convert 40 40 (.slice (some ⟨g, 0, none⟩) n c)).run Try.prog (W.alloc (.cells C 5)) = .ok (.slice (some ⟨g, 0, none⟩) n c) (W.alloc (.cells C 5 (C.size, C.size + 1))) := fun W C n c g hg => by
    subst hg
    exact Lib.run_convert_bytes_const (P := Try.prog) W 40 5 C n c Try.underlying40 Try.underlying5
  go_wp2_with fail
  have hA := zapp_lit HD1.out ⟨#[97]⟩ [97, 98, 99] #[.int .u8 97, .int .u8 98, .int .u8 99] 5 40 (3, 4) (0, 0) 3 w1.heap.size (w1.heap.size + 1) rfl rfl rfl rfl HK0.out (by decide) 0 _ HA1.out
  refine hA.mono ?_
  clear hA
  rintro e w2 ⟨rfl, hd2⟩
  have HD2 := Lib.hid hd2
  clear hd2
  go_wp2_with fail
  refine (zsyn_lit HD2.out ⟨#[97]⟩ _ _ _ rfl HK1.out (by decide) 0 _ HS2.out).mono ?_
  rintro e w3 ⟨rfl, hd3⟩
  have HD3 := Lib.hid hd3
  clear hd3
  go_wp2_with fail
  have hA := zapp_lit HD3.out ⟨#[97]⟩ [100, 101] #[.int .u8 100, .int .u8 101] 5 40 (2, 3) (0, 0) 2 w3.heap.size (w3.heap.size + 1) rfl rfl rfl rfl HK2.out (by decide) 0 _ HA3.out
  refine hA.mono ?_
  clear hA
  rintro e w4 ⟨rfl, hd4⟩
  have HD4 := Lib.hid hd4
  clear hd4
  go_wp2_with fail
  have hC := zcrash_any (dIn_new HD4.out (below_more (Below.refl _ w4) (.cells #[.int .i64 1] 3))) [1] (.slice (some ⟨w4.heap.size, 0, none⟩) 1 1) HK3.out (pick_lit w4 1 3 (0, 0) w4.heap.size rfl) ⟨fun p hp => by simp at hp; omega, by simp⟩ (awD_names _ _ _)
  refine hC.mono ?_
  clear hC
  rintro e w5 ⟨rfl, hd5, hc5, hb5⟩
  rw [show crashM (awD [97, 98, 99, 100, 101] 3 3) [1] = awC [97, 98, 99, 100] by kernel_rfl, show (w4.alloc (.cells #[.int .i64 1] 3)).heap.size = w4.heap.size + 1 by simp] at hc5
  have HD5 := Lib.hid hd5
  have HC5 := Lib.hid hc5
  clear hd5 hc5 hb5
  go_wp2_with fail
  refine (zread_any HC5.out ⟨#[97]⟩ (by decide) (by decide)).mono ?_
  rintro e w6 ⟨h6, hb6⟩
  rw [show findM (awC [97, 98, 99, 100]).fs [97] = some ⟨[97], [97, 98, 99, 100], 4⟩ by kernel_rfl] at h6
  obtain ⟨v6, rfl, ho6⟩ := h6
  have HD6 := Lib.hid (dIn_new HD5.out hb6)
  have HO6 := Lib.hid ho6
  clear hb6 ho6
  go_wp2_with fail
  refine (zcrash_any HD6.out [] (.slice none 0 0) HK3.out ⟨_, 0, rfl, Nat.le_refl _, .inl rfl⟩ ⟨fun p hp => by simp at hp, by simp⟩ (awD_names _ _ _)).mono ?_
  rintro e w7 ⟨rfl, hd7, hc7, hb7⟩
  rw [show crashM (awD [97, 98, 99, 100, 101] 3 3) [] = awC [97, 98, 99] by kernel_rfl] at hc7
  have HC7 := Lib.hid hc7
  have HO7 := Lib.hid (own_below HO6.out hb7)
  clear hd7 hc7 hb7
  go_wp2_with fail
  refine (zread_any HC7.out ⟨#[97]⟩ (by decide) (by decide)).mono ?_
  rintro e w8 ⟨h8, hb8⟩
  rw [show findM (awC [97, 98, 99]).fs [97] = some ⟨[97], [97, 98, 99], 3⟩ by kernel_rfl] at h8
  obtain ⟨v8, rfl, ho8⟩ := h8
  have kc6 := run_convert_own (P := Try.prog) 40 5 9 Try.underlying40 Try.underlying5 Try.underlying9 (own_below HO7.out hb8)
  have kc8 := run_convert_own (P := Try.prog) 40 5 9 Try.underlying40 Try.underlying5 Try.underlying9 ho8
  have HB8 := Lib.hid (dIn_below (dIn_new HC7.out hb8))
  clear hb8 ho8
  go_wp2_with fail
  go_ret
  exact ⟨rfl, HB8.out⟩

end Go.Proofs.Ytfiocghgjjandaa
