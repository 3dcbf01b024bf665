/- Picks that came in; the law's bytes; one file's disk. -/
import Derived.BigRegion
import Derived.Deep.RegionHeld3
import Derived.Stop.BytesEq
import Derived.Test.YtageldnhchgplaaGreatDoorProg
import Derived.Test.YtageldnhchgplaaGreatDoorKit
import Derived.Test.YtageldnhchgplaaGreatDoorRow
import Derived.Test.YtageldnhchgplaaGreatDoorDsk6
import Derived.Test.YtageldnhchgplaaGreatDoorDsk7
import Derived.Test.YtageldnhchgplaaGreatDoorDsk12
import Derived.Test.YtageldnhchgplaaGreatDoorDsk17
namespace Go.Proofs.YtageldnhchgplaaGreatDoor
open Go.ChangeShapes Go.WideShapes Go.RowKit Go.Proofs Go.Maps

theorem kept_lit {w0 w w' : World} {Z : Nat → Prop} {o : Obj} (h : KeptZ w0 (w.alloc o) w' (fun k => Z k ∨ (w.heap.size ≤ k ∧ k < (w.alloc o).heap.size))) : KeptZ w0 w w' Z := by
  have hb := below_more (Below.refl w.heap.size w) o
  exact ⟨Nat.le_trans hb.size h.1, fun k hk hz => (h.2 k (Nat.lt_of_lt_of_le hk hb.size) (hz.imp id .inl)).trans (hb.block k hk)⟩

theorem zsyn_sl {w0 w : World} {Z : Nat → Prop} {g : Nat} {D : CodM} (h : DIn w0 w Z g D) (s : ByteArray) (e : TypeId) (f1 : Nat × Nat) (b : Nat) (hb : b = w.heap.size) (hok : CodOk D) (hs : s.size ≤ maxLen) (k : Int) (D' : CodM) (hap : synM D [s] = (k, D')) :
    Calls Tryz.prog 28 #[.pointer (some ⟨g, 0, none⟩), .slice (some ⟨b, 0, none⟩) 1 1] (w.alloc (.cells #[.string s] e f1)) fun e w' => e = .returned (.int .i64 k) ∧ DIn w0 w' Z g D' ∧ KeptZ w0 w w' Z := by
  have h2 := dIn_new h (below_more (Below.refl _ w) (.cells #[.string s] e f1))
  refine (zsyn_any h2 [s] b 0 1 hok (.inr (.inr ⟨by omega, by simp; omega⟩)) (fun j t hj => ?_) (fun t ht => by simp at ht; rw [ht]; exact hs) (by simp)).mono ?_
  · cases j with
    | zero =>
      simp at hj
      subst hj hb
      rw [cell_of_row _ _ _ _ e f1 (heap_alloc_new w _)]
      rfl
    | succ j => simp at hj
  · rintro e w' ⟨rfl, hd, hk⟩
    rw [hap] at hd
    rw [hap]
    exact ⟨rfl, dIn_less hd (fun k hk => .inl hk), kept_lit hk⟩

end Go.Proofs.YtageldnhchgplaaGreatDoor
