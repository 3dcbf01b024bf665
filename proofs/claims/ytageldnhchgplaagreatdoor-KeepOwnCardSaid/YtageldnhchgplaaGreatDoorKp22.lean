/- Contracts: keep: Cut behind the first of two entries. -/
import Derived.BigRegion
import Derived.Deep.RegionHeld3
import Derived.Deep.QuietTactic
import Derived.BigQuiet
import Derived.IntWalk
import Derived.Deep.CutBlock
import Derived.Test.YtageldnhchgplaaGreatDoorProg
import Derived.Test.YtageldnhchgplaaGreatDoorKit
import Derived.Test.YtageldnhchgplaaGreatDoorRow
import Derived.Test.YtageldnhchgplaaGreatDoorRow2
import Derived.Test.YtageldnhchgplaaGreatDoorCod7
import Derived.Test.YtageldnhchgplaaGreatDoorStp
import Derived.Test.YtageldnhchgplaaGreatDoorKp0
import Derived.Test.YtageldnhchgplaaGreatDoorKp6
namespace Go.Proofs.YtageldnhchgplaaGreatDoor
open Go.RowKit Go.Proofs

/-- The state while a call reads it. -/
def OnlyS (W : World) (gn : Nat) (xs : List Value) (V : World) : Prop := Below W.heap.size W V ∧ Rw V 0 gn 53 xs

theorem onlyS_of {W V : World} {gn : Nat} {xs : List Value} (h : Rw W 0 gn 53 xs) (hb : Below W.heap.size W V) : OnlyS W gn xs V := ⟨hb, Rw.below h hb⟩

theorem ents_tail {W : World} {lb lc : Nat} {r0 r1 : RecE} (h : OwnE W 0 (.slice (some ⟨lb, 0, none⟩) 2 lc) [r0, r1]) : EntsAt W (.slice (some ⟨lb, 5, none⟩) 1 (lc - 1)) [r1.e] := by
  refine ⟨_, _, rfl, .inr ⟨lb, 5, rfl, fun j e hj => ?_⟩⟩
  cases j with
  | zero =>
    simp at hj
    subst hj
    refine ⟨r1.u, fun i v hi => ?_, intsAt_own (h.2 r1 (by simp)).1 (h.2 r1 (by simp)).2⟩
    have h1 : (rowsE [r0, r1])[5 + i]? = some v := by
      have := rowsE_at (rs := [r0, r1]) (k := 1) (r := r1) rfl hi
      simpa using this
    have hlt := (List.getElem?_eq_some_iff.1 h1).1
    have h2 := World.ownsRow.cellAt h.1 (5 + i) (by rw [rowsE_len] at hlt; simpa using hlt)
    rw [show 5 + 0 * 5 + i = 5 + i by omega, h2]
    exact h1
  | succ j => simp at hj

set_option maxRecDepth 100000 in
set_option maxHeartbeats 2000000 in
theorem konly_two {W : World} {gn lb lc lz : Nat} {x0 x1 x2 x3 x4 x5 : Value} {r0 r1 : RecE} (h : Rw W 0 gn 53 [x0, x1, x2, x3, x4, x5, .slice (some ⟨lb, 0, none⟩) 2 lc, .int .i64 lz]) (ho : OwnE W 0 (.slice (some ⟨lb, 0, none⟩) 2 lc) [r0, r1]) (hc : 2 ≤ lc) (hcm : lc ≤ 9223372036854775807) (hz : lz ≤ 1000000) (hs : szE r1.e ≤ 1000000) :
    Calls Tryz.prog 134 #[.pointer (some ⟨gn, 0, none⟩), .int .i64 0, .int .i64 1] W fun e w' => e = .returned (.tuple #[]) ∧ ∃ V, Below W.heap.size W V ∧ w' = (V.setCell ⟨gn, 7, none⟩ (.int .i64 ((lz : Int) - (ensz [r1.e] : Int)))).setCell ⟨gn, 6, none⟩ (.slice (some ⟨lb, 0, none⟩) 1 lc) := by
  have hE := ensz_le [r1.e]
  have hS1 : szEs [r1.e] = szE r1.e := by unfold szEs; simp
  obtain ⟨X, hX⟩ : ∃ X, X = ensz [r1.e] := ⟨_, rfl⟩
  have hXb : X ≤ 1000000 := by omega
  have K1 : Hid (∀ V, OnlyS W gn [x0, x1, x2, x3, x4, x5, .slice (some ⟨lb, 0, none⟩) 2 lc, .int .i64 lz] V → Calls Tryz.prog 126 #[.slice (some ⟨lb, 0, none⟩) 0 lc] V fun e V' => e = .returned (.int .i64 0) ∧ OnlyS W gn [x0, x1, x2, x3, x4, x5, .slice (some ⟨lb, 0, none⟩) 2 lc, .int .i64 lz] V') := Lib.hid (fun V hV => (kesize_any (w := V) (es := []) ⟨_, _, rfl, .inl rfl⟩ (by decide) (by decide)).mono (fun e V' hh => ⟨hh.1, onlyS_of h (below_then hV.1 hh.2)⟩))
  have K2 : Hid (∀ V, OnlyS W gn [x0, x1, x2, x3, x4, x5, .slice (some ⟨lb, 0, none⟩) 2 lc, .int .i64 lz] V → Calls Tryz.prog 126 #[.slice (some ⟨lb, 5, none⟩) 1 (lc - 1)] V fun e V' => e = .returned (.int .i64 X) ∧ OnlyS W gn [x0, x1, x2, x3, x4, x5, .slice (some ⟨lb, 0, none⟩) 2 lc, .int .i64 lz] V') := Lib.hid (fun V hV => (kesize_any (w := V) (es := [r1.e]) (entsAt_below (ents_tail ho) hV.1) (by simp) (by omega)).mono (fun e V' hh => ⟨by rw [hX]; exact hh.1, onlyS_of h (below_then hV.1 hh.2)⟩))
  have hS0 := onlyS_of h (Below.refl _ W)
  have hSd := onlyS_of h (below_draws (w' := W.drewN 1) (Below.refl _ W) ⟨1, rfl⟩)
  rw [← hX]
  have q1 : IntKind.i64.wrap (0 + (X : Int)) = (X : Int) := by rw [IntKind.wrap_i64]; omega
  have q2 : IntKind.i64.wrap ((lz : Int) - (X : Int)) = (lz : Int) - (X : Int) := by rw [IntKind.wrap_i64]; omega
  have z1 : (1 : Int) ≤ (lc : Int) := by omega
  have z2 : (1 : Nat) ≤ lc := by omega
  have hne1 : ¬ lc = 1 := by omega
  have HH := Lib.hid h
  clear h ho hE hS1 hX hs
  go_enter Tryz.func134, Tryz.ntmps134
  go_wp2_with fail
  have c6a : W.cell? ⟨gn, 6, none⟩ = some (.slice (some ⟨lb, 0, none⟩) 2 lc) := Rw.cell hS0.2 rfl
  have c7a : W.cell? ⟨gn, 7, none⟩ = some (.int .i64 lz) := Rw.cell hS0.2 rfl
  have f7a : W.frozen? ⟨gn, 7, none⟩ = false := Rw.free hS0.2 7
  have hSe : OnlyS W gn [x0, x1, x2, x3, x4, x5, .slice (some ⟨lb, 0, none⟩) 2 lc, .int .i64 lz] W.drew := hSd
  have q0 : IntKind.i64.wrap (X : Int) = (X : Int) := by rw [IntKind.wrap_i64]; omega
  have henter : Enters Tryz.prog 126 := enters_of Tryz.func126 (by kernel_rfl) rfl
  go_region_law (first
    | (refine step_call rfl 126 _ _ rfl #[.slice (some ⟨lb, 0, none⟩) 0 lc] ?_ henter (K1.out _ (by assumption)) ?_; simp [go_sem]; rintro e V1 ⟨rfl, hV1⟩; refine ⟨_, rfl, ?_⟩; have c6b : V1.cell? ⟨gn, 6, none⟩ = some (.slice (some ⟨lb, 0, none⟩) 2 lc) := Rw.cell hV1.2 rfl; have c7b : V1.cell? ⟨gn, 7, none⟩ = some (.int .i64 lz) := Rw.cell hV1.2 rfl; have f7b := Rw.free hV1.2 7)
    | (refine step_call rfl 126 _ _ rfl #[.slice (some ⟨lb, 5, none⟩) 1 (lc - 1)] ?_ henter (K2.out _ (by assumption)) ?_; simp [go_sem]; rintro e V2 ⟨rfl, hV2⟩; refine ⟨_, rfl, ?_⟩; have c6c : V2.cell? ⟨gn, 6, none⟩ = some (.slice (some ⟨lb, 0, none⟩) 2 lc) := Rw.cell hV2.2 rfl; have c7c : V2.cell? ⟨gn, 7, none⟩ = some (.int .i64 lz) := Rw.cell hV2.2 rfl; have f7c := Rw.free hV2.2 7))
  all_goals
    have HV1 := Lib.hid hV1
    have HV2 := Lib.hid hV2
    clear c6a c7a f7a c6b c7b f7b c6c c7c f7c hV1 hV2 hS0 hSd hSe K1 K2 henter
    have s1 := Rw.stored HV1.out.2 7 (.int .i64 ((lz : Int) - (X : Int)))
    have s2 := Rw.stored HV2.out.2 7 (.int .i64 ((lz : Int) - (X : Int)))
    have c1 := Rw.cell (j := 6) (v := .slice (some ⟨lb, 0, none⟩) 2 lc) s1 rfl
    have c2 := Rw.cell (j := 6) (v := .slice (some ⟨lb, 0, none⟩) 2 lc) s2 rfl
    have f1 := Rw.free s1 6
    have f2 := Rw.free s2 6
    clear s1 s2 q0 q1 q2
    go_wp2_with fail
    go_end0
    first
      | exact ⟨rfl, V2, HV2.out.1, rfl⟩
      | exact ⟨rfl, V1, HV1.out.1, rfl⟩

end Go.Proofs.YtageldnhchgplaaGreatDoor
