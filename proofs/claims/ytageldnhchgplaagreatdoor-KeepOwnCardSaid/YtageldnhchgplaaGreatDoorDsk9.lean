/- Contracts: the code's New, Ops, Cut, change, Truncate, Remove, Rename. -/
import Derived.BigRegion
import Derived.Deep.RegionHeld3
import Derived.Maps.OwnSet
import Derived.Test.YtageldnhchgplaaGreatDoorProg
import Derived.Test.YtageldnhchgplaaGreatDoorKit
import Derived.Test.YtageldnhchgplaaGreatDoorRow
import Derived.Test.YtageldnhchgplaaGreatDoorFp
import Derived.Test.YtageldnhchgplaaGreatDoorDsk0
import Derived.Test.YtageldnhchgplaaGreatDoorDsk6
import Derived.Test.YtageldnhchgplaaGreatDoorDsk7
namespace Go.Proofs.YtageldnhchgplaaGreatDoor
open Go.RowKit Go.Proofs Go.Maps

def newM (room : Nat) : CodM := ⟨room, [], 0, false, 0⟩

def DNewV (w w' : World) (room : Int) (e : Ending) : Prop :=
  (¬ (0 ≤ room ∧ room ≤ 4194304) ∧ e = .returned (.tuple #[.pointer none, .int .i64 1]) ∧ w' = w) ∨
  (0 ≤ room ∧ room ≤ 4194304 ∧ e = .returned (.tuple #[.pointer (some ⟨w.heap.size, 0, none⟩), .int .i64 0]) ∧ w' = w.alloc (.cells #[.int .i64 room, .map none, .int .i64 0, .bool false, .int .i64 0] 70))

theorem dnew_any (room : Int) (w : World) (h1 : -9223372036854775808 ≤ room) (h2 : room ≤ 9223372036854775807) : Calls Tryz.prog 13 #[.int .i64 room] w fun e w' => DNewV w w' room e := by
  go_enter Tryz.func13, Tryz.ntmps13
  by_cases h0 : room < 0
  · go_wp2_with fail
    go_ret2
    exact .inl ⟨by omega, rfl, rfl⟩
  · by_cases h4 : room ≤ 4194304
    · have hy : ¬ 4194304 < room := by omega
      go_wp2_with fail
      go_ret2
      exact .inr ⟨by omega, h4, rfl, rfl⟩
    · have hy : 4194304 < room := by omega
      go_wp2_with fail
      go_ret2
      exact .inl ⟨by omega, rfl, rfl⟩

theorem codAt_new {w w' : World} {room : Nat} (h : w' = w.alloc (.cells #[.int .i64 room, .map none, .int .i64 0, .bool false, .int .i64 0] 70)) : CodAt w' (fun k => w.heap.size ≤ k) w.heap.size (newM room) := by
  subst h
  refine ⟨Nat.le_refl _, .map none, [], Rw.alloc w _ _ (Nat.zero_le _), ⟨.inl ⟨rfl, rfl⟩, ?_, ?_, List.Pairwise.nil, List.Pairwise.nil⟩, rfl⟩
  · intro b hb
    simp at hb
  · intro x hx
    simp at hx

theorem codV_tick {w w1 : World} {F : Nat → Prop} {g : Nat} {D : CodM} {mv : Value} {rs : List Rec} (hF : F g) (hr : Rw w1 0 g 70 [.int .i64 D.room, mv, .int .i64 (tickM D).ops, .bool D.cut, .int .i64 (tickM D).left]) (hfs : FilesAt w1 F mv rs) (hD : rs.map (·.f) = D.fs) (hk : Kept F w w1) : CodV w w1 F g (tickM D) :=
  codV_same (D := tickM D) hF hr hfs hD hk (Below.refl _ _)

end Go.Proofs.YtageldnhchgplaaGreatDoor
