/- Contracts: the code's Names, Read, Sync. -/
import Derived.BigRegion
import Derived.Deep.RegionHeld3
import Derived.Maps.OwnSet
import Derived.Sort.KeysCollected
import Derived.CallsIn
import Derived.Test.YtageldnhchgplaaGreatDoorProg
import Derived.Test.YtageldnhchgplaaGreatDoorKit
import Derived.Test.YtageldnhchgplaaGreatDoorRow
import Derived.Test.YtageldnhchgplaaGreatDoorRow2
import Derived.Test.YtageldnhchgplaaGreatDoorCod5
import Derived.Test.YtageldnhchgplaaGreatDoorCod7
import Derived.Test.YtageldnhchgplaaGreatDoorFp
import Derived.Test.YtageldnhchgplaaGreatDoorRdk0
import Derived.Test.YtageldnhchgplaaGreatDoorDsk0
import Derived.Test.YtageldnhchgplaaGreatDoorDsk1
import Derived.Test.YtageldnhchgplaaGreatDoorDsk2
import Derived.Test.YtageldnhchgplaaGreatDoorDsk6
import Derived.Test.YtageldnhchgplaaGreatDoorDsk7
import Derived.Test.YtageldnhchgplaaGreatDoorDsk8
namespace Go.Proofs.YtageldnhchgplaaGreatDoor
open Go.RowKit Go.Proofs Go.Maps Go.Sort

/-- Read. -/
def DReadV (w w' : World) (fs : List FileM) (s : List UInt8) (e : Ending) : Prop :=
  (match findM fs s with
    | none => e = .returned (.tuple #[.slice none 0 0, .int .i64 4])
    | some f => ∃ v, e = .returned (.tuple #[v, .int .i64 0]) ∧ w'.ownsRow w.heap.size 5 1 v f.b.length (f.b.map byteV)) ∧ Below w.heap.size w w'

set_option maxHeartbeats 4000000 in
theorem dread_any (F : Nat → Prop) (g : Nat) (D : CodM) (s : ByteArray) (w : World) (h : CodAt w F g D) (hs : s.size ≤ maxLen) (hz : sizeM D.fs < 1099511627776) :
    Calls Tryz.prog 22 #[.pointer (some ⟨g, 0, none⟩), .string s] w fun e w' => DReadV w w' D.fs s.data.toList e := by
  obtain ⟨hF, mv, rs, hr, hfs, hD⟩ := h
  have c1 : w.cell? ⟨g, 1, none⟩ = some mv := hr.cell rfl
  have hlook := fun (W : World) (hb : Below w.heap.size w W) => look_any (filesAt_keep hfs (kept_below (F := fun _ => False) hb) (fun _ hk => hk.elim)).1 s hs
  cases hq : findR rs s.data.toList with
  | none =>
    have HFN := Lib.hid (findR_none_f hD hq)
    have hl1 := hlook w (Below.refl _ _)
    rw [hq] at hl1
    simp only [recP] at hl1
    clear hq hlook hr hfs hD hF hs hz
    go_enter Tryz.func22, Tryz.ntmps22
    go_wp2_with fail
    go_ret2
    refine ⟨?_, Below.refl _ _⟩
    rw [HFN.out]
    rfl
  | some x =>
    have HFN := Lib.hid (findR_some_f hD hq)
    obtain ⟨hxm, hxn⟩ := findR_some hq
    obtain ⟨_, hrx, hox, _⟩ := hfs.2.2.1 x hxm
    obtain ⟨a2, q2, hu⟩ := own_len hox.1
    have hc0 := hrx.cell (j := 0) rfl
    have hNb : x.f.b.length < 1099511627776 := by
      have h1 := sizeM_mem (List.mem_map.2 ⟨x, hxm, rfl⟩ : x.f ∈ rs.map (·.f))
      rw [hD] at h1
      omega
    have hfi := fun (W : World) (hb : Below w.heap.size w W) => first_any x.g x.f.b x.u x.f.b.length W (Rw.below hrx hb |>.cell (j := 0) rfl) (own_below hox.1 hb) (Nat.le_refl _) (by omega)
    have hsi := fun (W : World) (hb : Below w.heap.size w W) => dsize_any x.g a2 x.f.b.length q2 W (by rw [← hu]; exact Rw.below hrx hb |>.cell (j := 0) rfl)
    have hl1 : ∀ m, (Instr.lookup 68 mv (.string s) false).run Tryz.prog (w.drewN m) = .ok (.pointer (some ⟨x.g, 0, none⟩)) (w.drewN m) := fun m => by
      have := hlook (w.drewN m) (below_draws (Below.refl _ _) ⟨m, rfl⟩)
      rw [hq] at this
      exact this
    have hl0 : (Instr.lookup 68 mv (.string s) false).run Tryz.prog w = .ok (.pointer (some ⟨x.g, 0, none⟩)) w := by
      have := hlook w (Below.refl _ _)
      rw [hq] at this
      exact this
    have hld : (Instr.lookup 68 mv (.string s) false).run Tryz.prog w.drew = .ok (.pointer (some ⟨x.g, 0, none⟩)) w.drew := hl1 1
    rw [List.take_length] at hfi
    obtain ⟨N, hN⟩ : ∃ N, N = x.f.b.length := ⟨_, rfl⟩
    rw [← hN] at hfi hsi
    have HNN := Lib.hid hN
    have HFI := Lib.hid hfi
    have HSI := Lib.hid hsi
    have HB0 := Lib.hid (Below.refl w.heap.size w)
    have HBD : Hid (Below w.heap.size w w.drew) := Lib.hid (below_draws (w' := w.drewN 1) (Below.refl _ _) ⟨1, rfl⟩)
    clear hq hlook hr hfs hD hF hs hz hxm hxn hrx hox hu hNb hfi hsi hN hc0 hl1
    go_enter Tryz.func22, Tryz.ntmps22
    go_wp2_with fail
    go_region_with (first | (go_at_call 38; refine (HSI.out _ HBD.out).mono ?_; rintro e w2 ⟨rfl, rfl⟩) | (go_at_call 37; refine (HFI.out _ HBD.out).mono ?_; rintro e w3 ⟨v3, rfl, ho3, hb3⟩))
    all_goals
      have HO3 := Lib.hid ho3
      have HB3 := Lib.hid hb3
      clear ho3 hb3
      go_wp2_with fail
      go_ret2
      refine ⟨?_, below_then HBD.out HB3.out⟩
      rw [HFN.out]
      refine ⟨v3, rfl, ?_⟩
      rw [← HNN.out]
      exact own_mono HO3.out HBD.out.size

end Go.Proofs.YtageldnhchgplaaGreatDoor
