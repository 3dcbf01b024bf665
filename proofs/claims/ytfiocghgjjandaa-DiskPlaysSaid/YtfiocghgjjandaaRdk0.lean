/- Stage 4's reference disk: its plain model, and how it lies in memory. -/
import Derived.Deep.MidRow
import Derived.BigRegion
import Derived.Test.YtfiocghgjjandaaKit
namespace Go.Proofs.Ytfiocghgjjandaa
open Go.RowKit Go.Proofs

structure FileM where
  name : List UInt8
  b : List UInt8
  syn : Nat

structure DiskM where
  room : Int
  fs : List FileM
  n : Nat
  last : Int

/-- A file's place; none is -1. -/
def posM : List FileM → List UInt8 → Option Nat
  | [], _ => none
  | f :: r, s => if f.name = s then some 0 else (posM r s).map (· + 1)

def posI (fs : List FileM) (s : List UInt8) : Int := match posM fs s with | some k => k | none => -1

theorem posM_some : ∀ {fs : List FileM} {s : List UInt8} {k : Nat}, posM fs s = some k → ∃ f, fs[k]? = some f ∧ f.name = s
  | f :: r, s, k, h => by
    unfold posM at h
    split at h
    · rename_i he
      cases h
      exact ⟨f, rfl, he⟩
    · obtain ⟨j, hj, rfl⟩ := Option.map_eq_some_iff.1 h
      obtain ⟨f2, h1, h2⟩ := posM_some hj
      exact ⟨f2, by simpa using h1, h2⟩

theorem posM_hit : ∀ {fs : List FileM} {s : List UInt8} {k : Nat} {f : FileM}, fs[k]? = some f → f.name = s → (∀ j g, j < k → fs[j]? = some g → g.name ≠ s) → posM fs s = some k
  | f0 :: r, s, 0, f, h, hn, _ => by
    cases h
    unfold posM
    rw [if_pos hn]
  | f0 :: r, s, k + 1, f, h, hn, hb => by
    unfold posM
    rw [if_neg (hb 0 f0 (by omega) rfl), posM_hit (k := k) (by simpa using h) hn (fun j g hj hg => hb (j + 1) g (by omega) (by simpa using hg))]
    rfl

theorem posM_none : ∀ {fs : List FileM} {s : List UInt8}, (∀ (j : Nat) (g : FileM), fs[j]? = some g → g.name ≠ s) → posM fs s = none
  | [], _, _ => rfl
  | f :: r, s, h => by
    unfold posM
    rw [if_neg (h 0 f rfl), posM_none (fun j g hg => h (j + 1) g (by simpa using hg))]
    rfl

/-- One file's cells. -/
def nameV (s : List UInt8) : Value := .string ⟨s.toArray⟩

def offM (D : DiskM) : Bool := decide (0 ≤ D.last) && decide (D.last < (D.n : Int) + 1)

def DiskM.op (D : DiskM) : DiskM := { D with n := D.n + 1 }

end Go.Proofs.Ytfiocghgjjandaa
