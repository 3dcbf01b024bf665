/- Contracts: the code's Copy. -/
import Derived.BigRegion
import Derived.Deep.RegionHeld3
import Derived.Maps.OwnSet
import Derived.Maps.RangeWalk
import Derived.Test.YtfiocghgjjandaaProg
import Derived.Test.YtfiocghgjjandaaKit
import Derived.Test.YtfiocghgjjandaaRow
import Derived.Test.YtfiocghgjjandaaRow2
import Derived.Test.YtfiocghgjjandaaCod5
import Derived.Test.YtfiocghgjjandaaCod7
import Derived.Test.YtfiocghgjjandaaFrm4
import Derived.Test.YtfiocghgjjandaaFp
import Derived.Test.YtfiocghgjjandaaRdk0
import Derived.Test.YtfiocghgjjandaaDsk0
import Derived.Test.YtfiocghgjjandaaDsk1
import Derived.Test.YtfiocghgjjandaaDsk2
import Derived.Test.YtfiocghgjjandaaDsk3
import Derived.Test.YtfiocghgjjandaaDsk5
import Derived.Test.YtfiocghgjjandaaDsk6
import Derived.Test.YtfiocghgjjandaaDsk7
import Derived.Test.YtfiocghgjjandaaDsk8
import Derived.Test.YtfiocghgjjandaaDsk9
import Derived.Test.YtfiocghgjjandaaDsk15
namespace Go.Proofs.Ytfiocghgjjandaa
open Go.RowKit Go.Proofs Go.Maps

theorem filesAt_iter {w w' : World} {F : Nat → Prop} {mv : Value} {rs : List Rec} {r : Nat} (h : FilesAt w F mv rs) (hk : Kept (fun k => k = r) w w') (hr : ∃ m s q c, w.heap[r]? = some (.mapIter m s q c)) : FilesAt w' F mv rs := by
  obtain ⟨m, a, q, c, hh⟩ := hr
  refine ⟨mapV_same h.1 rfl (fun b hb => ?_), h.2.1, fun x hx => ?_, h.2.2.2⟩
  · obtain ⟨hm, hlt⟩ := mapV_lt h.1 hb
    refine hk.blk b hlt (fun e => ?_)
    obtain ⟨es, clock, h1, _⟩ := hm
    rw [e, hh] at h1
    cases h1
  · have hX := h.2.2.1 x hx
    refine recAt_keep hX hk (fun e => ?_) (fun k hk2 e => ?_)
    · have := hX.2.1.2
      rw [e, hh] at this
      cases this
    · subst e
      rcases hX.2.2.1.1.2 with ⟨hv, _⟩ | ⟨g2, cap, cur, hv, _, h2, _⟩
      · rw [hv] at hk2
        simp [Value.ownBlock] at hk2
      · rw [hv] at hk2
        simp [Value.ownBlock] at hk2
        subst hk2
        rw [hh] at h2
        cases h2

theorem twinAt_iter {w w1 w2 : World} {g : Nat} {D : CodM} {fs : List FileM} {r : Nat} (h : TwinAt w w1 g D fs) (hk : Kept (fun k => k = r) w1 w2) (hr : ∃ m s q c, w1.heap[r]? = some (.mapIter m s q c)) : TwinAt w w2 g D fs := by
  obtain ⟨mv, rs, hr1, hfs, hD⟩ := h
  refine ⟨mv, rs, rw_kept hr1 hk (fun e => ?_), filesAt_iter hfs hk hr, hD⟩
  obtain ⟨m, a, q, c, hh⟩ := hr
  have := hr1.2
  rw [e, hh] at this
  cases this

set_option maxHeartbeats 8000000 in
theorem dcopy_any (F : Nat → Prop) (g : Nat) (D : CodM) (w : World) (h : CodAt w F g D) (hok : CodOk D) :
    Calls Try.prog 26 #[.pointer (some ⟨g, 0, none⟩)] w fun e w' => e = .returned (.pointer (some ⟨w.heap.size, 0, none⟩)) ∧ CodAt w' (fun k => w.heap.size ≤ k) w.heap.size D ∧ Below w.heap.size w w' := by
  obtain ⟨hF, mv, rs, hr, hfs, hD⟩ := h
  obtain ⟨mm, rfl⟩ := mapV_map hfs.1
  have hwh := Rw.whole hr
  have c0 := hr.cell (j := 0) rfl
  have c1 := hr.cell (j := 1) rfl
  have c2 := hr.cell (j := 2) rfl
  have c3 := hr.cell (j := 3) rfl
  have c4 := hr.cell (j := 4) rfl
  have k1 : (w.alloc (.cells #[.int .i64 D.room, .map none, .int .i64 D.ops, .bool D.cut, .int .i64 D.left] 47)).cell? ⟨g, 1, none⟩ = some (.map mm) := (Rw.more hr _).cell rfl
  obtain ⟨w1, hw1⟩ : ∃ w1, w1 = w.alloc (.cells #[.int .i64 D.room, .map none, .int .i64 D.ops, .bool D.cut, .int .i64 D.left] 47) := ⟨_, rfl⟩
  obtain ⟨ga, hga⟩ : ∃ ga, ga = w.heap.size := ⟨_, rfl⟩
  have hk1 : Kept (fun _ => False) w w1 := by rw [hw1]; exact kept_alloc (kept_refl _ _) _
  have hr1 : Rw w1 0 ga 47 [.int .i64 D.room, .map none, .int .i64 D.ops, .bool D.cut, .int .i64 D.left] := by rw [hw1, hga]; exact Rw.alloc w _ _ (Nat.zero_le _)
  have hfs1 := filesAt_keep hfs hk1 (fun _ hk => hk.elim)
  have hmlt : ∀ b, Value.map mm = .map (some b) → b < w.heap.size := fun b hb => (mapV_lt hfs.1 hb).2
  have hsz1 : w1.heap.size = w.heap.size + 1 := by rw [hw1]; simp
  have HR1 := Lib.hid hr1
  have HK1 := Lib.hid hk1
  have HFS1 := Lib.hid hfs1
  have HFS := Lib.hid hfs
  have HW1 := Lib.hid hw1
  have HGA := Lib.hid hga
  have HD := Lib.hid hD
  have HOK := Lib.hid hok
  have HML := Lib.hid hmlt
  have HSZ1 := Lib.hid hsz1
  clear hr hfs hD hok hF hr1 hk1 hfs1 hw1 hga hmlt hsz1
  go_enter Try.func26, Try.ntmps26
  go_wp2_with (first | (at_range; rw [← HGA.out, ← HW1.out]; refine wpList_range_v rfl _ rfl (.map mm) rs rfl HFS1.out.1 ?_; intro w2 cnt0 hrg0 hg0 hs0) | fail)
  go_frame
  have hk2 := kept_none_new HK1.out hg0
  have hk12 := kept_none_new (kept_refl (fun _ => False) w1) hg0
  have ht0 : TwinAt w w2 ga D [] := ⟨.map none, [], rw_kept HR1.out hk12 (fun h => h), ⟨.inl ⟨rfl, rfl⟩, fun b hb => by simp at hb, fun x hx => by simp at hx, List.Pairwise.nil, List.Pairwise.nil⟩, rfl⟩
  have HRG0 := Lib.hid hrg0
  have HK0 := Lib.hid hk2
  have HT0 : Hid (TwinAt w w2 ga D (gone (Maps.has (H := Unit) (.map (rs.map entR))) rs)) := Lib.hid (by rw [gone_none (has_all rs)]; exact ht0)
  clear hrg0 hg0 hs0 hk2 hk12 ht0 k1 c0 c1 c2 c3 c4 hwh
  obtain ⟨r, hr⟩ : ∃ r, r = w1.heap.size := ⟨_, rfl⟩
  simp only [← hr]
  rw [← hr] at HRG0
  have HRE := Lib.hid hr
  clear hr
  go_loopw [5] (fun _ wr => ∃ (lf : Lit → Bool) (cnt : Nat), Hid (RangeV wr r (.map mm) rs lf cnt) ∧ Hid (TwinAt w wr ga D (gone lf rs)) ∧ Hid (Kept (fun _ => False) w wr)) (fun _ wr => rangeCnt wr (.map mm) r)
  case atStart => exact ⟨_, _, HRG0, HT0, HK0⟩
  case round =>
    obtain ⟨lf, cnt, HRG, HT, HK⟩ := hrel
    obtain ⟨w3, hw3⟩ : ∃ w1 : World, w1 = wr := ⟨_, rfl⟩
    subst hw3
    clear HRG0 HT0 HK0
    go_wp2_with (first | (at_next; refine wpList_next_recs rfl _ rfl r (.map mm) rs lf cnt rfl HRG.out ?_ ?_) | fail)
    · intro hdone
      have HV : Hid (CodAt w3 (fun k => w.heap.size ≤ k) ga D ∧ Below w.heap.size w w3) := Lib.hid (by
        refine ⟨?_, below_kept HK.out⟩
        obtain ⟨mv2, rs2, hr2, hfs2, hD2⟩ := HT.out
        refine ⟨by rw [HGA.out]; exact Nat.le_refl _, mv2, rs2, hr2, hfs2, ?_⟩
        rw [hD2, gone_all hdone, HD.out])
      clear hdone
      go_wp2_with fail
      go_ret
      have h2 := HV.out
      rw [HGA.out] at h2 ⊢
      exact ⟨rfl, h2⟩
    · intro x s w4 cnt4 hx hsn hsz hlx hrg4 hlt4 hg4 hs4 hen
      have hk34 : Kept (fun k => k = r) w3 w4 := kept_grow hg4
      have hk4 := kept_none_grown HK.out hg4 (by rw [HRE.out, HSZ1.out]; omega)
      have ht4 := twinAt_iter HT.out hk34 (rangeV_lt HRG.out)
      have hfs4 := filesAt_keep HFS.out hk4 (fun _ hk => hk.elim)
      obtain ⟨_, hrx, hox, hxs⟩ := hfs4.2.2.1 x hx
      obtain ⟨ax, qx, hu⟩ := own_len hox.1
      have cx0 := hrx.cell (j := 0) rfl
      have cx1 := hrx.cell (j := 1) rfl
      rw [hu] at cx0
      obtain ⟨N, hN⟩ : ∃ N, N = x.f.b.length := ⟨_, rfl⟩
      obtain ⟨S, hS⟩ : ∃ S, S = x.f.syn := ⟨_, rfl⟩
      rw [← hN] at cx0
      rw [← hS] at cx1
      have hNb : N < 1099511627776 := by
        have h1 := sizeM_mem (List.mem_map.2 ⟨x, hx, rfl⟩ : x.f ∈ rs.map (·.f))
        rw [HD.out] at h1
        have h2 := HOK.out.1
        have h3 := HOK.out.2.1
        omega
      have hsi := fun (W : World) (hb : Below w4.heap.size w4 W) => dsize_any x.g ax N qx W ((hb.cell (p := ⟨x.g, 0, none⟩) (block_of_cell cx0)).trans cx0)
      have hfi := fun (W : World) (hb : Below w4.heap.size w4 W) => first_any x.g x.f.b x.u N W (Rw.below hrx hb |>.cell (j := 0) rfl) (own_below hox.1 hb) (by omega) (by omega)
      have hcx := fun (W : World) (hb : Below w4.heap.size w4 W) => (hb.cell (p := ⟨x.g, 1, none⟩) (block_of_cell cx1)).trans cx1
      have hgl : (gone lf rs).length < 1099511627776 := by
        have h1 := gone_len lf rs
        have h2 := HOK.out.2.2.2.2
        rw [← HD.out, List.length_map] at h2
        omega
      have hpu := fun (W0 W1 : World) (v : Value) (hb : Below w4.heap.size w4 W0) (hb2 : Below W0.heap.size W0 W1) (ho : W1.ownsRow W0.heap.size 5 1 v N ((x.f.b.take N).map byteV)) =>
        twin_put (f := x.f) (twinAt_keep ht4 hb) hb2 (by rw [HGA.out]; exact Nat.le_refl _) (kept_trans hk4 (kept_below hb)) (by rw [← hN]; rw [hN, List.take_length] at ho; rw [← hN] at ho; exact ho) hxs hsn hsz hgl (rangeV_kept hrg4 (kept_below (F := fun _ => False) hb) (fun h => h) (fun _ _ h => h)) HML.out
      rw [← hS] at hpu
      have hne : rs ≠ [] := by intro e; rw [e] at hx; simp at hx
      have hcn : rangeCnt w4 (.map mm) r < rangeCnt w3 (.map mm) r := by rw [rangeV_cnt hrg4 hne, rangeV_cnt HRG.out hne]; exact hlt4
      have hnew : ∀ W2, TwinAt w W2 ga D (putM x.f (gone lf rs)) → TwinAt w W2 ga D (gone (fun z => lf z && !z.sameKey (.string x.f.name)) rs) := fun W2 h => by
        rw [gone_put hfs4.2.2.2.2 hx hlx] at h
        exact h
      have hcm : ∀ W2, RangeV W2 r (.map mm) rs (fun z => lf z && !z.sameKey (.string x.f.name)) cnt4 → rangeCnt W2 (.map mm) r < rangeCnt w3 (.map mm) r := fun W2 h => by
        rw [rangeV_cnt h hne, rangeV_cnt HRG.out hne]
        exact hlt4
      have HSI := Lib.hid hsi
      have HFI := Lib.hid hfi
      have HCX := Lib.hid hcx
      have HPU := Lib.hid hpu
      have HNEW := Lib.hid hnew
      have HCM := Lib.hid hcm
      have HBD : Hid (Below w4.heap.size w4 w4.drew) := Lib.hid (below_draws (w' := w4.drewN 1) (Below.refl _ _) ⟨1, rfl⟩)
      clear hx hsn hsz hlx hrg4 hlt4 hg4 hs4 hk34 hk4 ht4 hfs4 hrx hox hxs hu hN hS hNb hsi hfi hcx hgl hpu hne hcn hnew hcm
      go_wp2_with fail
      go_region_with (first
        | (go_at_call 43; refine (HSI.out _ HBD.out).mono ?_; rintro e w6 ⟨rfl, rfl⟩)
        | (go_at_call 42; refine (HFI.out _ HBD.out).mono ?_; rintro e w5 ⟨v5, rfl, ho5, hb5⟩; obtain ⟨a5, q5, rfl⟩ := own_len ho5; have cx5 := HCX.out w5 (below_then HBD.out hb5))
        | (go_at_call 37; refine (HPU.out _ w5 (.slice a5 N q5) HBD.out hb5 ho5).mono ?_; rintro e w7 ⟨rfl, ht7, hk7, hr7⟩))
      all_goals
        have HT7 := Lib.hid (HNEW.out _ ht7)
        have HK7 := Lib.hid hk7
        have HR7 := Lib.hid hr7
        have HC7 := Lib.hid (HCM.out _ hr7)
        clear ht7 hk7 hr7 cx5 ho5 hb5
        go_wp2_with fail
        go_roundw
        case rel => exact ⟨_, cnt4, HR7, HT7, HK7⟩
        case measure => exact HC7.out

end Go.Proofs.Ytfiocghgjjandaa
