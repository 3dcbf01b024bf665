/- What the document fixes of header. -/
import Derived.Test.YtfgpcajjnpmoeaaShelf
import Derived.BigQuiet
import Derived.Test.YtfgpcajjnpmoeaaProg
import Derived.Test.YtfgpcajjnpmoeaaKit
import Derived.Test.YtfgpcajjnpmoeaaAsc4
import Derived.Test.YtfgpcajjnpmoeaaRow
import Derived.Test.YtfgpcajjnpmoeaaCod8
import Derived.Test.YtfgpcajjnpmoeaaJoin
import Derived.Test.YtfgpcajjnpmoeaaHdr0
import Derived.Test.YtfgpcajjnpmoeaaHdr2
import Derived.Test.YtfgpcajjnpmoeaaHdr14
namespace Go.Proofs.Ytfgpcajjnpmoeaa
open Go.RowKit Go.Proofs

theorem flds_two (w : World) (a b c d : ByteArray) (e : TypeId) (n m : Nat) (hn : n = 2) : FldsAt (w.alloc (.cells #[.string a, .string b, .string c, .string d] e)) (.slice (some ⟨w.heap.size, 0, none⟩) n m) [⟨a, b⟩, ⟨c, d⟩] := by
  subst hn
  refine ⟨_, _, rfl, .inr ⟨w.heap.size, 0, rfl, fun j f hj => ?_⟩⟩
  match j, hj with
  | 0, hj =>
    simp at hj
    subst hj
    exact ⟨alloc_cell w _ _ _ 0, alloc_cell w _ _ _ 1⟩
  | 1, hj =>
    simp at hj
    subst hj
    exact ⟨alloc_cell w _ _ _ 2, alloc_cell w _ _ _ 3⟩
  | j + 2, hj => simp at hj

def awkL : List FldM := [⟨⟨#[88, 45, 65]⟩, ⟨#[49]⟩⟩, ⟨⟨#[65, 99, 99, 101, 112, 116]⟩, ⟨#[97]⟩⟩]

theorem awk_leave : leaveL awkL = [[120, 45, 97]] := by decide +kernel

theorem asc_one (x : List UInt8) : AscL [x] := List.pairwise_singleton _ _

theorem hawake_any (w : World) : Calls Try.prog 12 #[] w fun e w' => e = .returned (.bool true) ∧ Below w.heap.size w w' := by
  have HE : Hid (∀ W, Calls Try.prog 18 #[.string ⟨#[84, 101, 120, 116, 47, 80, 108, 97, 105, 110, 59, 32, 99, 104, 97, 114, 115, 101, 116, 61, 120]⟩] W fun e w' => e = .returned (.tuple #[.string ⟨#[116, 101, 120, 116, 47, 112, 108, 97, 105, 110]⟩, .bool true]) ∧ Below W.heap.size W w') := Lib.hid (fun W => by
    have h := ess_any ⟨#[84, 101, 120, 116, 47, 80, 108, 97, 105, 110, 59, 32, 99, 104, 97, 114, 115, 101, 116, 61, 120]⟩ (by decide) W
    have e1 : essL (⟨#[84, 101, 120, 116, 47, 80, 108, 97, 105, 110, 59, 32, 99, 104, 97, 114, 115, 101, 116, 61, 120]⟩ : ByteArray).data.toList = [116, 101, 120, 116, 47, 112, 108, 97, 105, 110] := by decide +kernel
    have e2 : essB (⟨#[84, 101, 120, 116, 47, 80, 108, 97, 105, 110, 59, 32, 99, 104, 97, 114, 115, 101, 116, 61, 120]⟩ : ByteArray).data.toList = true := by decide +kernel
    rw [e1, e2] at h
    exact h)
  have HU : Hid (∀ (W : World) (u : Value), FldsAt W u awkL → Calls Try.prog 24 #[u] W fun e w' => (∃ v, e = .returned v ∧ SliceAt w' v ([[120, 45, 97]].map strL)) ∧ Below W.heap.size W w') := Lib.hid (fun W u h => (unsafe_any awkL u W h (by decide +kernel)).mono (by
    rintro e w' ⟨⟨v, R, rfl, hs, ha, hm, _⟩, hb⟩
    have hR : R = [[120, 45, 97]] := asc_eq ha (asc_one _) (fun x => by rw [hm, awk_leave])
    rw [hR] at hs
    exact ⟨⟨v, rfl, hs⟩, hb⟩))
  have HT : Hid (∀ (W : World) (u v : Value), SliceAt W u ([[120, 45, 97]].map strL) → SliceAt W v ([[120, 45, 97]].map strL) → Calls Try.prog 15 #[u, v] W fun e w' => e = .returned (.bool true) ∧ ∃ m, w' = W.drewN m) := Lib.hid (fun W u v h1 h2 => by
    have h := texts_any u v _ _ W h1 h2 (by decide) (by decide)
    rw [eqLL_yes rfl] at h
    exact h)
  go_enter Try.func12, Try.ntmps12
  go_wp2_with fail
  refine (HE.out _).mono ?_
  rintro e w1 ⟨rfl, hb1⟩
  have B1 := Lib.hid hb1
  clear hb1
  go_wp2_with fail
  refine (HU.out _ _ (flds_two _ _ _ _ _ _ _ _ rfl)).mono ?_
  rintro e w2 ⟨⟨v, rfl, hs2⟩, hb2⟩
  have B2 := Lib.hid (below_then (below_more B1.out _) hb2)
  have S2 := Lib.hid hs2
  obtain ⟨va, vc, rfl⟩ := hs2.len
  clear hb2 hs2
  go_wp2_with fail
  refine (HT.out _ _ _ (SliceAt.below S2.out (below_more (Below.refl _ _) _)) (SliceAt.lit _ _ _ _ _ rfl)).mono ?_
  rintro e w3 ⟨rfl, hm3⟩
  have M3 := Lib.hid hm3
  clear hm3
  go_wp2_with fail
  go_ret
  exact ⟨rfl, below_draws (below_more B2.out _) M3.out⟩

end Go.Proofs.Ytfgpcajjnpmoeaa
