/- Contracts: the code's Sync. -/
import Derived.BigRegion
import Derived.Deep.RegionHeld3
import Derived.Maps.OwnSet
import Derived.Test.YtfiocghgjjandaaProg
import Derived.Test.YtfiocghgjjandaaKit
import Derived.Test.YtfiocghgjjandaaRow
import Derived.Test.YtfiocghgjjandaaCod5
import Derived.Test.YtfiocghgjjandaaCod7
import Derived.Test.YtfiocghgjjandaaFp
import Derived.Test.YtfiocghgjjandaaRdk0
import Derived.Test.YtfiocghgjjandaaDsk0
import Derived.Test.YtfiocghgjjandaaDsk2
import Derived.Test.YtfiocghgjjandaaDsk4
import Derived.Test.YtfiocghgjjandaaDsk6
import Derived.Test.YtfiocghgjjandaaDsk7
import Derived.Test.YtfiocghgjjandaaDsk9
namespace Go.Proofs.Ytfiocghgjjandaa
open Go.RowKit Go.Proofs Go.Maps

def syncO (fs : List FileM) (s : List UInt8) : List FileM := match findM fs s with | none => fs | some f => setM s (fun _ => ⟨s, f.b, f.b.length⟩) fs

def syncA (fs : List FileM) (ns : List ByteArray) : List FileM := ns.foldl (fun fs s => syncO fs s.data.toList) fs

def synM (D : CodM) (ns : List ByteArray) : Int × CodM :=
  if goesM D = false then (6, tickM D) else if ns.any (fun s => (findM D.fs s.data.toList).isNone) then (4, tickM D) else (0, withM (tickM D) (syncA D.fs ns))

theorem findM_isSome {fs : List FileM} {s : List UInt8} : (findM fs s).isSome = fs.any (fun f => f.name == s) := by
  unfold findM
  rw [List.isSome_find?]

theorem setM_has {fs : List FileM} {s t : List UInt8} {y : FileM} (hy : y.name = s) : (findM (setM s (fun _ => y) fs) t).isSome = (findM fs t).isSome := by
  rw [findM_isSome, findM_isSome]
  unfold setM
  rw [List.any_map]
  congr 1
  funext f
  show ((if f.name = s then y else f).name == t) = (f.name == t)
  split
  · rename_i h; rw [hy, h]
  · rfl

theorem syncO_has {fs : List FileM} {s t : List UInt8} : (findM (syncO fs s) t).isSome = (findM fs t).isSome := by
  unfold syncO
  cases hq : findM fs s with
  | none => rfl
  | some f => exact setM_has rfl

theorem syncA_has {ns : List ByteArray} {t : List UInt8} : ∀ {fs : List FileM}, (findM (syncA fs ns) t).isSome = (findM fs t).isSome := by
  induction ns with
  | nil => intro fs; rfl
  | cons s r ih => intro fs; exact (ih (fs := syncO fs s.data.toList)).trans syncO_has

theorem syncA_succ {fs : List FileM} {ns : List ByteArray} {k : Nat} {s : ByteArray} (h : ns[k]? = some s) : syncA fs (ns.take (k + 1)) = syncO (syncA fs (ns.take k)) s.data.toList := by
  unfold syncA
  rw [take_succ_of h, List.foldl_append]
  rfl

def SyncAt (w wr : World) (F : Nat → Prop) (g : Nat) (mv : Value) (D : CodM) (fs : List FileM) : Prop :=
  ∃ rs, Rw wr 0 g 47 [.int .i64 D.room, mv, .int .i64 (tickM D).ops, .bool D.cut, .int .i64 (tickM D).left] ∧ FilesAt wr (Up F w.heap.size) mv rs ∧ rs.map (·.f) = fs ∧ Kept F w wr

set_option maxHeartbeats 1000000 in
theorem dsync_any (F : Nat → Prop) (g : Nat) (D : CodM) (ns : List ByteArray) (v : Value) (w : World) (h : CodAt w F g D) (hok : CodOk D) (hp : ∀ w', Kept F w w' → SliceAt w' v (ns.map strV)) (hs : ∀ s ∈ ns, s.size ≤ maxLen) (hn : ns.length < 9223372036854775807) :
    Calls Try.prog 11 #[.pointer (some ⟨g, 0, none⟩), v] w fun e w' => e = .returned (.int .i64 (synM D ns).1) ∧ CodV w w' F g (synM D ns).2 := by
  obtain ⟨hF, mv, rs, hr, hfs, hD⟩ := h
  have hpf := perf_any F g D w mv rs hF hr hfs hok
  obtain ⟨A, C, rfl⟩ := SliceAt.len (hp w (kept_refl _ _))
  obtain ⟨n, hnn⟩ : ∃ n, n = ns.length := ⟨_, rfl⟩
  rw [List.length_map] at hp ⊢
  rw [← hnn] at hp hn ⊢
  obtain ⟨R, hR⟩ : ∃ R, R = synM D ns := ⟨_, rfl⟩
  rw [← hR]
  unfold synM at hR
  have hcl : ∀ (w' : World) (k : Nat) (s : ByteArray), Kept F w w' → ns[k]? = some s → ∃ b o, A = some ⟨b, o, none⟩ ∧ w'.cell? ⟨b, o + k, none⟩ = some (.string s) := fun w' k s hk hs => by
    have hne : ns.map strV ≠ [] := by intro e; rw [List.map_eq_nil_iff] at e; rw [e] at hs; simp at hs
    obtain ⟨b, o, c, hv, hc⟩ := SliceAt.at (hp w' hk) hne
    cases hv
    exact ⟨b, o, rfl, hc k _ (by rw [List.getElem?_map, hs]; rfl)⟩
  have HR := Lib.hid hR
  have HF := Lib.hid hF
  have HD := Lib.hid hD
  have HCL := Lib.hid hcl
  have HNN := Lib.hid hnn
  have HS := Lib.hid hs
  have HOK := Lib.hid hok
  clear hr hfs hok hF hD hR hs hp hcl hnn
  cases hgo : goesM D with
  | false =>
    rw [hgo] at hpf
    have HPF := Lib.hid hpf
    have HQ : Hid (R = (6, tickM D)) := Lib.hid (by rw [HR.out, if_pos hgo])
    clear hgo hpf
    go_enter Try.func11, Try.ntmps11
    go_wp2_with fail
    refine (HPF.out).mono ?_
    rintro e w1 ⟨rfl, hr1, hfs1, hk1⟩
    have HV := Lib.hid (codV_tick HF.out hr1 hfs1 HD.out hk1)
    clear hr1 hfs1 hk1
    go_wp2_with fail
    go_ret
    rw [HQ.out]
    exact ⟨rfl, HV.out⟩
  | true =>
    rw [hgo] at hpf
    have HPF := Lib.hid hpf
    have HGO : Hid (¬ goesM D = false) := Lib.hid (by rw [hgo]; decide)
    clear hgo hpf
    go_enter Try.func11, Try.ntmps11
    go_wp2_with fail
    refine (HPF.out).mono ?_
    rintro e w1 ⟨rfl, hr1, hfs1, hk1⟩
    have c1 : w1.cell? ⟨g, 1, none⟩ = some mv := hr1.cell rfl
    have HR1 := Lib.hid hr1
    have HFS1 := Lib.hid hfs1
    have HK1 := Lib.hid hk1
    clear hr1 hfs1 hk1 HPF
    go_wp2_with fail
    go_loopw [16] (fun i wr => ∃ k : Nat, k ≤ n ∧ i = .int .i64 k ∧ Hid (∀ j s, j < k → ns[j]? = some s → (findM D.fs s.data.toList).isSome = true) ∧ w1 = wr) (fun i _ => n - (intOf i).toNat)
    case atStart => exact ⟨0, Nat.zero_le _, rfl, Lib.hid (fun j s hj => absurd hj (Nat.not_lt_zero _)), rfl⟩
    case round =>
      obtain ⟨k, hk, rfl, HA, rfl⟩ := hrel
      by_cases hlt : k < n
      · obtain ⟨s, hsk⟩ : ∃ s, ns[k]? = some s := ⟨_, List.getElem?_eq_getElem (by rw [← HNN.out]; exact hlt)⟩
        obtain ⟨b, o, rfl, hcell⟩ := HCL.out w1 k s HK1.out hsk
        have hlook := look_any HFS1.out.1 s (HS.out s (List.mem_of_getElem? hsk))
        have hy : (k : Int) < (n : Int) := by omega
        have HKL := Lib.hid hlt
        have HSK := Lib.hid hsk
        cases hq : findR rs s.data.toList with
        | none =>
          have HFN := Lib.hid (findR_none_f HD.out hq)
          rw [hq] at hlook
          simp only [recP] at hlook
          have HQ : Hid (R = (4, tickM D)) := Lib.hid (by
            rw [HR.out, if_neg HGO.out, if_pos]
            rw [List.any_eq_true]
            exact ⟨s, List.mem_of_getElem? hsk, by rw [HFN.out]; rfl⟩)
          clear hq hsk hk hlt hn
          go_wp2_with fail
          go_ret
          rw [HQ.out]
          exact ⟨rfl, codV_tick HF.out HR1.out HFS1.out HD.out HK1.out⟩
        | some x =>
          have HFN := Lib.hid (findR_some_f HD.out hq)
          rw [hq] at hlook
          simp only [recP] at hlook
          clear hq hsk hk hlt
          go_wp2_with fail
          go_roundw
          case rel =>
            refine ⟨k + 1, by have := HKL.out; omega, by go_num, Lib.hid (fun j t hj ht => ?_), by first | rfl | trivial⟩
            rcases Nat.lt_or_ge j k with h | h
            · exact HA.out j t h ht
            · obtain rfl : j = k := by omega
              have := HSK.out
              rw [ht] at this
              cases this
              rw [HFN.out]
              rfl
          case measure => have := HKL.out; simp [intOf]; omega
      · have hkn : k = n := by omega
        subst hkn
        have hy : ¬ (k : Int) < (k : Int) := by omega
        have HALL : Hid (∀ s ∈ ns, (findM D.fs s.data.toList).isSome = true) := Lib.hid (fun s hs => by
          obtain ⟨j, hj, rfl⟩ := List.getElem_of_mem hs
          exact HA.out j _ (by rw [HNN.out]; exact hj) (List.getElem?_eq_getElem hj))
        have HQ : Hid (R = (0, withM (tickM D) (syncA D.fs ns))) := Lib.hid (by
          rw [HR.out, if_neg HGO.out, if_neg]
          rw [List.any_eq_true]
          rintro ⟨s, hs, h2⟩
          have := HALL.out s hs
          cases hq : findM D.fs s.data.toList with
          | none => rw [hq] at this; cases this
          | some f => rw [hq] at h2; cases h2)
        clear hk hlt HA
        go_wp2_with fail
        go_loopw [30] (fun i wr => ∃ j : Nat, j ≤ k ∧ i = .int .i64 j ∧ Hid (SyncAt w wr F g mv D (syncA D.fs (ns.take j)))) (fun i _ => k - (intOf i).toNat)
        case atStart => exact ⟨0, Nat.zero_le _, rfl, Lib.hid ⟨rs, HR1.out, filesAt_more HFS1.out (fun _ hk => .inl hk), HD.out, HK1.out⟩⟩
        case round =>
          obtain ⟨j, hj, rfl, HSA⟩ := hrel
          obtain ⟨w2, hw2⟩ : ∃ w2 : World, w2 = wr := ⟨_, rfl⟩
          subst hw2
          clear c1
          obtain ⟨rs2, hr2, hfs2, hD2, hk2⟩ := HSA.out
          have d1 : w2.cell? ⟨g, 1, none⟩ = some mv := hr2.cell rfl
          by_cases hlt : j < k
          · obtain ⟨s, hsk⟩ : ∃ s, ns[j]? = some s := ⟨_, List.getElem?_eq_getElem (by rw [← HNN.out]; exact hlt)⟩
            obtain ⟨b, o, rfl, hcell⟩ := HCL.out w2 j s hk2 hsk
            have hlook := look_any hfs2.1 s (HS.out s (List.mem_of_getElem? hsk))
            have hy2 : (j : Int) < (k : Int) := by omega
            have HKL := Lib.hid hlt
            have hsome := HALL.out s (List.mem_of_getElem? hsk)
            rw [← syncA_has (ns := ns.take j), ← hD2, ← findR_f, Option.isSome_map] at hsome
            obtain ⟨x, hq⟩ := Option.isSome_iff_exists.1 hsome
            rw [hq] at hlook
            simp only [recP] at hlook
            obtain ⟨hxm, hxn⟩ := findR_some hq
            obtain ⟨hxF, hrx, hox, hxs⟩ := hfs2.2.2.1 x hxm
            obtain ⟨a2, q2, hu⟩ := own_len hox.1
            have hc0 := hrx.cell (j := 0) rfl
            rw [hu] at hc0
            have hsy := sync_any x.g a2 x.f.b.length q2 w2 hc0 (by rw [hrx.cell (j := 1) rfl]; rfl) (hrx.free 1)
            have hne := own_type hox.1 hrx (by decide)
            have hk3 : Kept (fun k => k = x.g) w2 (w2.setCell ⟨x.g, 1, none⟩ (.int .i64 x.f.b.length)) := kept_put (F := fun k => k = x.g) (kept_refl _ w2) (.inl rfl) 1 _
            have hset := filesAt_set (m := x.f.b) (syn := x.f.b.length) hfs2 hxm (kept_mono hk3 (fun k hk => .inl (.inl hk))) (hrx.stored 1 (.int .i64 x.f.b.length)) (own_set hox.1 hne 1 _) (fun k hk => .inl hk) (Nat.le_refl _)
            have hr3 := rw_kept hr2 hk3 (fun e => rw_type hrx hr2 (by decide) e.symm)
            have HNX : Hid (SyncAt w (w2.setCell ⟨x.g, 1, none⟩ (.int .i64 x.f.b.length)) F g mv D (syncA D.fs (ns.take (j + 1)))) := Lib.hid (by
              refine ⟨_, hr3, filesAt_more hset (fun k hk => hk.elim id (fun h => .inr (Nat.le_trans hk2.size h))), ?_, kept_then hk2 hk3 (fun k hk => by rw [hk]; exact hxF)⟩
              rw [setR_f, hD2, hxn, syncA_succ hsk]
              unfold syncO
              rw [findR_some_f hD2 hq])
            have HSY := Lib.hid hsy
            clear hsk hsome hq hxm hxn hxF hrx hox hxs hu hc0 hsy hne hk3 hset hr3 hr2 hfs2 hD2 hk2 HSA hj hlt
            go_wp2_with fail
            refine (HSY.out).mono ?_
            rintro e w3 ⟨rfl, rfl⟩
            go_wp2_with fail
            go_roundw
            case rel => exact ⟨j + 1, by have := HKL.out; omega, by go_num, HNX⟩
            case measure => have := HKL.out; simp [intOf]; omega
          · have hkn : j = k := by omega
            have HV : Hid (CodV w w2 F g (withM (tickM D) (syncA D.fs ns))) := Lib.hid (by
              refine ⟨⟨.inl HF.out, mv, rs2, hr2, hfs2, ?_⟩, hk2⟩
              rw [hD2, hkn, HNN.out, List.take_length]
              rfl)
            have hy2 : ¬ (j : Int) < (k : Int) := by omega
            clear hr2 hfs2 hD2 hk2 HSA hj hlt hkn hn
            go_wp2_with fail
            go_ret
            rw [HQ.out]
            exact ⟨rfl, HV.out⟩

end Go.Proofs.Ytfiocghgjjandaa
