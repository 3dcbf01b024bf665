/- Contracts: which fields may be, the code's and the reference's. -/
import Derived.Test.YtfgpcajjnpmoeaaShelf
import Derived.BigQuiet
import Derived.Deep.RegionHeld3
import Derived.Test.YtfgpcajjnpmoeaaProg
import Derived.Test.YtfgpcajjnpmoeaaKit
import Derived.Test.YtfgpcajjnpmoeaaAsc1
import Derived.Test.YtfgpcajjnpmoeaaAsc2
import Derived.Test.YtfgpcajjnpmoeaaRow
import Derived.Test.YtfgpcajjnpmoeaaCod8
import Derived.Test.YtfgpcajjnpmoeaaUrl9
import Derived.Test.YtfgpcajjnpmoeaaHdr0
import Derived.Test.YtfgpcajjnpmoeaaHdr1
namespace Go.Proofs.Ytfgpcajjnpmoeaa
open Go.RowKit Go.Proofs

/-- A box with a field. -/
theorem box_two (w : World) (n v : ByteArray) (T : TypeId) : Below w.heap.size w (w.alloc (.cells #[.string n, .string v] T)) ∧ (w.alloc (.cells #[.string n, .string v] T)).cell? ⟨w.heap.size, 0, none⟩ = some (.string n) ∧ (w.alloc (.cells #[.string n, .string v] T)).cell? ⟨w.heap.size, 1, none⟩ = some (.string v) :=
  ⟨below_more (Below.refl _ _) _, alloc_cell w _ _ _ 0, alloc_cell w _ _ _ 1⟩

def BoxS (w W : World) (g : Nat) (n v : ByteArray) : Prop := Below w.heap.size w W ∧ W.cell? ⟨g, 0, none⟩ = some (.string n) ∧ W.cell? ⟨g, 1, none⟩ = some (.string v)

theorem boxS_below {w W W' : World} {g : Nat} {n v : ByteArray} (h : BoxS w W g n v) (hb : Below W.heap.size W W') : BoxS w W' g n v :=
  ⟨below_then h.1 hb, cell_stays h.2.1 hb, cell_stays h.2.2 hb⟩

theorem txt_eq (a b : ByteArray) : (a.toList == b.toList) = decide (a.data.toList = b.data.toList) := by
  rw [ByteArray.toList_eq, ByteArray.toList_eq, Bool.eq_iff_iff, beq_iff_eq, decide_eq_true_eq]

theorem valid_any (n v : ByteArray) (hn : n.size ≤ 1073741824) (hv : v.size ≤ 1073741824) (w : World) :
    Calls Try.prog 20 #[.agg #[.string n, .string v]] w fun e w' => e = .returned (.bool (valB n.data.toList v.data.toList)) ∧ Below w.heap.size w w' := by
  obtain ⟨k, hk⟩ : ∃ k, k = tokL n.data.toList := ⟨_, rfl⟩
  obtain ⟨h, hh⟩ : ∃ h, h = v.data.toList.any ctlB := ⟨_, rfl⟩
  obtain ⟨T, hT⟩ : ∃ T : ByteArray, T = ⟨(trimL v.data.toList).toArray⟩ := ⟨_, rfl⟩
  have HK : Hid (∀ W, Calls Try.prog 37 #[.string n] W fun e w' => e = .returned (.bool k) ∧ w' = W) := Lib.hid (fun W => by rw [hk]; exact token_any n hn W)
  have HH : Hid (∀ W, Calls Try.prog 41 #[.string v, .func (.func 42) #[] #[]] W fun e w' => e = .returned (.bool h) ∧ w' = W) := Lib.hid (fun W => by rw [hh]; exact has_any _ ctlB Try.ent_control control_byte v hv W)
  have HT : Hid (∀ W, Calls Try.prog 32 #[.string v] W fun e w' => e = .returned (.string T) ∧ Below W.heap.size W w') := Lib.hid (fun W => by rw [hT]; exact trim_any v hv W)
  obtain ⟨q, hq⟩ : ∃ q, q = (T.toList == v.toList) := ⟨_, rfl⟩
  have hR : valB n.data.toList v.data.toList = (k && (!h && q)) := by
    rw [hk, hh, hq, txt_eq, hT]
    rfl
  rw [hR]
  have hq2 : (T.toList == v.toList) = q := hq.symm
  have hbox := box_two w n v 34
  clear hk hh hT hq hR hn hv
  cases k with
  | false =>
    go_enter Try.func20, Try.ntmps20
    go_wp2_with fail
    obtain ⟨w1, hw1⟩ : ∃ w1, w1 = w.alloc (.cells #[.string n, .string v] 34) := ⟨_, rfl⟩
    rw [← hw1] at hbox ⊢
    obtain ⟨b0, c0, c1⟩ := hbox
    have B0 := Lib.hid b0
    clear hw1 b0
    go_quiet ((go_at_call 37; exact Calls.quiet_of_same (HK.out _)))
    go_wp2_with fail
    go_ret
    exact ⟨rfl, below_draws B0.out ⟨_, rfl⟩⟩
  | true =>
    cases h with
    | true =>
      go_enter Try.func20, Try.ntmps20
      go_wp2_with fail
      obtain ⟨w1, hw1⟩ : ∃ w1, w1 = w.alloc (.cells #[.string n, .string v] 34) := ⟨_, rfl⟩
      rw [← hw1] at hbox ⊢
      obtain ⟨b0, c0, c1⟩ := hbox
      have B0 := Lib.hid b0
      clear hw1 b0
      go_quiet (first | (go_at_call 37; exact Calls.quiet_of_same (HK.out _)) | (go_at_call 41; exact Calls.quiet_of_same (HH.out _)))
      go_wp2_with fail
      go_ret
      exact ⟨rfl, below_draws B0.out ⟨_, rfl⟩⟩
    | false =>
      have HS0 : Hid (∀ W, (W = (w.alloc (.cells #[.string n, .string v] 34)).drew) → Below w.heap.size w W ∧ W.cell? ⟨w.heap.size, 0, none⟩ = some (.string n) ∧ W.cell? ⟨w.heap.size, 1, none⟩ = some (.string v)) := Lib.hid (by
        rintro W rfl
        exact boxS_below (w := w) hbox (below_draws (Below.refl _ _) ⟨1, rfl⟩))
      have HST : Hid (∀ W W', (Below w.heap.size w W ∧ W.cell? ⟨w.heap.size, 0, none⟩ = some (.string n) ∧ W.cell? ⟨w.heap.size, 1, none⟩ = some (.string v)) → Below W.heap.size W W' → (Below w.heap.size w W' ∧ W'.cell? ⟨w.heap.size, 0, none⟩ = some (.string n) ∧ W'.cell? ⟨w.heap.size, 1, none⟩ = some (.string v))) := Lib.hid (fun W W' h hb => boxS_below (w := w) h hb)
      clear hbox
      go_enter Try.func20, Try.ntmps20
      go_wp2_with fail
      go_region_held3 (fun W => Below w.heap.size w W ∧ W.cell? ⟨w.heap.size, 0, none⟩ = some (.string n) ∧ W.cell? ⟨w.heap.size, 1, none⟩ = some (.string v))
        (first | exact HS0.out _ rfl | assumption)
        (first
          | (go_at_call 37; refine (HK.out _).mono ?_; rintro e w7 ⟨rfl, rfl⟩)
          | (go_at_call 41; refine (HH.out _).mono ?_; rintro e w7 ⟨rfl, rfl⟩)
          | (go_at_call 32; refine (HT.out _).mono ?_; rintro e w7 ⟨rfl, hb7⟩; have hS7 := HST.out _ w7 (by assumption) hb7; clear hb7))
      go_wp2_with fail
      go_ret
      exact ⟨by simp, hS7.1⟩

end Go.Proofs.Ytfgpcajjnpmoeaa
