/- Contracts: the code's Names, Read, Sync. -/
import Derived.BigRegion
import Derived.Deep.RegionHeld3
import Derived.Maps.OwnSet
import Derived.Sort.KeysCollected
import Derived.CallsIn
import Derived.Test.YtfiocghgjjandaaProg
import Derived.Test.YtfiocghgjjandaaShelf
import Derived.Test.YtfiocghgjjandaaKit
import Derived.Test.YtfiocghgjjandaaRow
import Derived.Test.YtfiocghgjjandaaRow2
import Derived.Test.YtfiocghgjjandaaCod5
import Derived.Test.YtfiocghgjjandaaCod7
import Derived.Test.YtfiocghgjjandaaFp
import Derived.Test.YtfiocghgjjandaaRdk0
import Derived.Test.YtfiocghgjjandaaDsk0
import Derived.Test.YtfiocghgjjandaaDsk1
import Derived.Test.YtfiocghgjjandaaDsk2
import Derived.Test.YtfiocghgjjandaaDsk6
import Derived.Test.YtfiocghgjjandaaDsk7
import Derived.Test.YtfiocghgjjandaaDsk8
namespace Go.Proofs.Ytfiocghgjjandaa
open Go.RowKit Go.Proofs Go.Maps Go.Sort

theorem bef_of_lt : ∀ {a b : List UInt8}, a < b → bytesBefore a b = true
  | [], [], h => by simp at h
  | [], _ :: _, _ => rfl
  | _ :: _, [], h => by simp at h
  | x :: r, y :: s, h => by
    rw [List.cons_lt_cons_iff] at h
    simp only [bytesBefore, Bool.or_eq_true, decide_eq_true_eq, Bool.and_eq_true, beq_iff_eq]
    rcases h with h | ⟨h1, h2⟩
    · exact .inl h
    · exact .inr ⟨h1, bef_of_lt h2⟩

theorem le_of_bef {a b : List UInt8} (h : bytesBefore a b = true) : leB a b = true := by
  show decide (a ≤ b) = true
  rw [decide_eq_true_eq]
  rcases Classical.em (b < a) with h2 | h2
  · have h3 := bef_trans h (bef_of_lt h2)
    rw [bef_irr] at h3
    cases h3
  · exact Std.not_lt.1 h2

theorem names_sorted {rs : List Rec} (h : SortM (rs.map (·.f))) {ss : List (List UInt8)} (hp : ss.Perm (strKeys (H := Unit) (.map (rs.map entR)))) : ss.mergeSort (fun x y => decide (x ≤ y)) = rs.map (fun x => x.f.name) := by
  have hk : strKeys (H := Unit) (.map (rs.map entR)) = rs.map (fun x => x.f.name) := by
    show (rs.map entR).map (fun p => strOf p.1) = _
    rw [List.map_map]
    rfl
  rw [hk] at hp
  rw [show ss.mergeSort (fun x y => decide (x ≤ y)) = ss.mergeSort leB from rfl, mergeSort_of_perm hp]
  apply List.mergeSort_of_pairwise
  unfold SortM at h
  rw [List.pairwise_map] at h ⊢
  exact h.imp (fun {a b} hab => le_of_bef hab)

def DNamesV (w w' : World) (fs : List FileM) (e : Ending) : Prop :=
  (∃ v, e = .returned v ∧ w'.ownsRow w.heap.size 9 1 v fs.length (fs.map (fun f => encStr f.name))) ∧ Below w.heap.size w w'

theorem dnames_any (F : Nat → Prop) (g : Nat) (D : CodM) (w : World) (h : CodAt w F g D) (hl : D.fs.length < 1099511627776) :
    Calls Try.prog 30 #[.pointer (some ⟨g, 0, none⟩)] w fun e w' => DNamesV w w' D.fs e := by
  obtain ⟨hF, mv, rs, hr, hfs, hD⟩ := h
  have hrl : rs.length = D.fs.length := by have := congrArg List.length hD; simpa using this
  have c1 : w.cell? ⟨g, 1, none⟩ = some mv := hr.cell rfl
  rcases hfs.1 with ⟨rfl, hrs⟩ | ⟨b, rfl, hm⟩
  · have hk := callsIn_wide.1 (Try.maps_Keys_52 none w)
    have hso := callsIn_wide.1 (Try.slices_Sorted_keys_nil_51_52 w)
    have hnil : D.fs = [] := by rw [← hD, hrs]; rfl
    have HK := Lib.hid hk
    have HSO := Lib.hid hso
    have HNI := Lib.hid hnil
    clear hk hso hnil hr hfs hD hrl hl hF hrs
    go_enter Try.func30, Try.ntmps30
    go_wp2_with fail
    refine (HK.out).mono ?_
    rintro e w1 ⟨rfl, rfl⟩
    go_wp2_with fail
    refine (HSO.out).mono ?_
    rintro e w2 ⟨v, ss, rfl, rfl, hrow, _, hb⟩
    have HROW := Lib.hid hrow
    have HB := Lib.hid hb
    clear hrow hb
    go_wp2_with fail
    go_ret
    refine ⟨⟨v, rfl, ?_⟩, below_then (below_more (Below.refl _ _) _) HB.out⟩
    rw [HNI.out]
    have h1 := own_mono (base := w.heap.size) HROW.out (by simp)
    simpa using h1
  · have hmax : Maps.size (H := Unit) (.map (rs.map entR)) = rs.length := by simp [Maps.size]
    have hk := callsIn_wide.1 (Try.maps_Keys_52 (some b) w)
    have hso := callsIn_wide.1 (Try.slices_Sorted_keys_51_52 b rs.length (.map (rs.map entR)) ptrR w hm (by rw [hmax]; unfold maxLen; omega) (by rw [hmax]; omega))
    have hnm : rs.map (fun x => encStr x.f.name) = D.fs.map (fun f => encStr f.name) := by rw [← hD, List.map_map]; rfl
    have HK := Lib.hid hk
    have HSO := Lib.hid hso
    have HSR := Lib.hid hfs.2.2.2.2
    have HNM := Lib.hid hnm
    have HRL := Lib.hid hrl
    clear hk hso hr hfs hD hrl hl hF hmax hnm hm
    go_enter Try.func30, Try.ntmps30
    go_wp2_with fail
    refine (HK.out).mono ?_
    rintro e w1 ⟨rfl, rfl⟩
    go_wp2_with fail
    refine (HSO.out).mono ?_
    rintro e w2 ⟨v, ss, rfl, hp, hrow, _, hb⟩
    have hlen : ss.length = D.fs.length := by
      have := List.Perm.length_eq hp
      unfold strKeys at this
      rw [List.length_map, List.length_map, HRL.out] at this
      exact this
    rw [names_sorted HSR.out hp, hlen, List.map_map] at hrow
    have HROW := Lib.hid hrow
    have HB := Lib.hid hb
    clear hrow hb hp hlen
    go_wp2_with fail
    go_ret
    refine ⟨⟨v, rfl, ?_⟩, below_then (below_more (Below.refl _ _) _) HB.out⟩
    rw [← HNM.out]
    exact own_mono HROW.out (by simp)

/-- Read. -/
def DReadV (w w' : World) (fs : List FileM) (s : List UInt8) (e : Ending) : Prop :=
  (match findM fs s with
    | none => e = .returned (.tuple #[.slice none 0 0, .int .i64 4])
    | some f => ∃ v, e = .returned (.tuple #[v, .int .i64 0]) ∧ w'.ownsRow w.heap.size 5 1 v f.b.length (f.b.map byteV)) ∧ Below w.heap.size w w'

set_option maxHeartbeats 4000000 in
theorem dread_any (F : Nat → Prop) (g : Nat) (D : CodM) (s : ByteArray) (w : World) (h : CodAt w F g D) (hs : s.size ≤ maxLen) (hz : sizeM D.fs < 1099511627776) :
    Calls Try.prog 13 #[.pointer (some ⟨g, 0, none⟩), .string s] w fun e w' => DReadV w w' D.fs s.data.toList e := by
  obtain ⟨hF, mv, rs, hr, hfs, hD⟩ := h
  have c1 : w.cell? ⟨g, 1, none⟩ = some mv := hr.cell rfl
  have hlook := fun (W : World) (hb : Below w.heap.size w W) => look_any (filesAt_keep hfs (kept_below (F := fun _ => False) hb) (fun _ hk => hk.elim)).1 s hs
  cases hq : findR rs s.data.toList with
  | none =>
    have HFN := Lib.hid (findR_none_f hD hq)
    have hl1 := hlook w (Below.refl _ _)
    rw [hq] at hl1
    simp only [recP] at hl1
    clear hq hlook hr hfs hD hF hs hz
    go_enter Try.func13, Try.ntmps13
    go_wp2_with fail
    go_ret2
    refine ⟨?_, Below.refl _ _⟩
    rw [HFN.out]
    rfl
  | some x =>
    have HFN := Lib.hid (findR_some_f hD hq)
    obtain ⟨hxm, hxn⟩ := findR_some hq
    obtain ⟨_, hrx, hox, _⟩ := hfs.2.2.1 x hxm
    obtain ⟨a2, q2, hu⟩ := own_len hox.1
    have hc0 := hrx.cell (j := 0) rfl
    have hNb : x.f.b.length < 1099511627776 := by
      have h1 := sizeM_mem (List.mem_map.2 ⟨x, hxm, rfl⟩ : x.f ∈ rs.map (·.f))
      rw [hD] at h1
      omega
    have hfi := fun (W : World) (hb : Below w.heap.size w W) => first_any x.g x.f.b x.u x.f.b.length W (Rw.below hrx hb |>.cell (j := 0) rfl) (own_below hox.1 hb) (Nat.le_refl _) (by omega)
    have hsi := fun (W : World) (hb : Below w.heap.size w W) => dsize_any x.g a2 x.f.b.length q2 W (by rw [← hu]; exact Rw.below hrx hb |>.cell (j := 0) rfl)
    have hl1 : ∀ m, (Instr.lookup 45 mv (.string s) false).run Try.prog (w.drewN m) = .ok (.pointer (some ⟨x.g, 0, none⟩)) (w.drewN m) := fun m => by
      have := hlook (w.drewN m) (below_draws (Below.refl _ _) ⟨m, rfl⟩)
      rw [hq] at this
      exact this
    have hl0 : (Instr.lookup 45 mv (.string s) false).run Try.prog w = .ok (.pointer (some ⟨x.g, 0, none⟩)) w := by
      have := hlook w (Below.refl _ _)
      rw [hq] at this
      exact this
    have hld : (Instr.lookup 45 mv (.string s) false).run Try.prog w.drew = .ok (.pointer (some ⟨x.g, 0, none⟩)) w.drew := hl1 1
    rw [List.take_length] at hfi
    obtain ⟨N, hN⟩ : ∃ N, N = x.f.b.length := ⟨_, rfl⟩
    rw [← hN] at hfi hsi
    have HNN := Lib.hid hN
    have HFI := Lib.hid hfi
    have HSI := Lib.hid hsi
    have HB0 := Lib.hid (Below.refl w.heap.size w)
    have HBD : Hid (Below w.heap.size w w.drew) := Lib.hid (below_draws (w' := w.drewN 1) (Below.refl _ _) ⟨1, rfl⟩)
    clear hq hlook hr hfs hD hF hs hz hxm hxn hrx hox hu hNb hfi hsi hN hc0 hl1
    go_enter Try.func13, Try.ntmps13
    go_wp2_with fail
    go_region_with (first | (go_at_call 43; refine (HSI.out _ HBD.out).mono ?_; rintro e w2 ⟨rfl, rfl⟩) | (go_at_call 42; refine (HFI.out _ HBD.out).mono ?_; rintro e w3 ⟨v3, rfl, ho3, hb3⟩))
    all_goals
      have HO3 := Lib.hid ho3
      have HB3 := Lib.hid hb3
      clear ho3 hb3
      go_wp2_with fail
      go_ret2
      refine ⟨?_, below_then HBD.out HB3.out⟩
      rw [HFN.out]
      refine ⟨v3, rfl, ?_⟩
      rw [← HNN.out]
      exact own_mono HO3.out HBD.out.size

end Go.Proofs.Ytfiocghgjjandaa
