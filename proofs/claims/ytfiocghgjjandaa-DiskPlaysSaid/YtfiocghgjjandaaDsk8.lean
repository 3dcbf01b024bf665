/- Contracts: the code's Append. -/
import Derived.BigRegion
import Derived.Deep.RegionHeld3
import Derived.Maps.OwnSet
import Derived.Test.YtfiocghgjjandaaProg
import Derived.Test.YtfiocghgjjandaaKit
import Derived.Test.YtfiocghgjjandaaRow
import Derived.Test.YtfiocghgjjandaaCod5
import Derived.Test.YtfiocghgjjandaaCod7
import Derived.Test.YtfiocghgjjandaaJoin
import Derived.Test.YtfiocghgjjandaaFrm4
import Derived.Test.YtfiocghgjjandaaFp
import Derived.Test.YtfiocghgjjandaaRdk0
import Derived.Test.YtfiocghgjjandaaDsk0
import Derived.Test.YtfiocghgjjandaaDsk1
import Derived.Test.YtfiocghgjjandaaDsk2
import Derived.Test.YtfiocghgjjandaaDsk4
import Derived.Test.YtfiocghgjjandaaDsk5
import Derived.Test.YtfiocghgjjandaaDsk6
import Derived.Test.YtfiocghgjjandaaDsk7
namespace Go.Proofs.Ytfiocghgjjandaa
open Go.RowKit Go.Proofs Go.Maps

theorem sizeM_mem {f : FileM} : ∀ {fs : List FileM}, f ∈ fs → f.b.length ≤ sizeM fs
  | y :: r, h => by
    unfold sizeM
    rw [List.map_cons, List.sum_cons]
    rcases List.mem_cons.1 h with rfl | h
    · omega
    · have := sizeM_mem h
      unfold sizeM at this
      omega

set_option maxHeartbeats 2000000 in
theorem append_any (F : Nat → Prop) (g : Nat) (D : CodM) (s : ByteArray) (ls : List (List UInt8)) (v : Value) (w : World) (h : CodAt w F g D) (hok : CodOk D) (hp : ∀ w', Kept F w w' → PartsB w' w'.heap.size v ls)
    (hl : ls.flatten.length < 1099511627776) (hn : ls.length < 9223372036854775807) :
    Calls Try.prog 10 #[.pointer (some ⟨g, 0, none⟩), .string s, v] w fun e w' => e = .returned (.int .i64 (appM D s.data.toList ls.flatten).1) ∧ CodV w w' F g (appM D s.data.toList ls.flatten).2 := by
  obtain ⟨hF, mv, rs, hr, hfs, hD⟩ := h
  obtain ⟨A, C, rfl, _⟩ := PartsB.len (hp w (kept_refl _ _))
  obtain ⟨n, hnn⟩ : ∃ n, n = ls.length := ⟨_, rfl⟩
  rw [← hnn] at hp ⊢
  have HN := Lib.hid hnn
  have HNB := Lib.hid hn
  have HPF := Lib.hid (perf_any F g D w mv rs hF hr hfs hok)
  have HP := Lib.hid hp
  have HL := Lib.hid hl
  have HOK := Lib.hid hok
  have HF := Lib.hid hF
  have HD := Lib.hid hD
  obtain ⟨R, hR⟩ : ∃ R, R = appM D s.data.toList ls.flatten := ⟨_, rfl⟩
  rw [← hR]
  unfold appM at hR
  obtain ⟨o1, ho1⟩ : ∃ o1, o1 = (tickM D).ops := ⟨_, rfl⟩
  obtain ⟨l1, hl1⟩ : ∃ l1, l1 = (tickM D).left := ⟨_, rfl⟩
  rw [← ho1, ← hl1] at HPF
  have HO1 := Lib.hid ho1
  have HL1 := Lib.hid hl1
  have HR := Lib.hid hR
  obtain ⟨room, hroom⟩ : ∃ room, room = D.room := ⟨_, rfl⟩
  obtain ⟨cut, hcut⟩ : ∃ cut, cut = D.cut := ⟨_, rfl⟩
  rw [← hroom, ← hcut] at HPF
  have HRO := Lib.hid hroom
  have HCU := Lib.hid hcut
  have HTK : Hid (tickM D = ⟨room, D.fs, o1, cut, l1⟩) := Lib.hid (by rw [ho1, hl1, hroom, hcut]; rfl)
  clear hr hfs hok hF hD hp hl hn hnn hR ho1 hl1 hroom hcut
  go_enter Try.func10, Try.ntmps10
  go_wp2_with fail
  refine (HPF.out).mono ?_
  rintro e w1 ⟨rfl, hr1, hfs1, hk1⟩
  have HR1 := Lib.hid hr1
  have HFS1 := Lib.hid hfs1
  have HK1 := Lib.hid hk1
  have HNM := Lib.hid (nameable_any s w1)
  clear HPF hfs1 hk1
  cases hgo : goesM D with
  | false =>
    have HQ : Hid (R = (6, tickM D)) := Lib.hid (by rw [HR.out, if_pos hgo])
    clear hgo hr1
    go_wp2_with fail
    go_ret
    rw [HQ.out]
    refine ⟨rfl, ?_⟩
    rw [HTK.out]
    exact codV_same HF.out HR1.out HFS1.out HD.out HK1.out (Below.refl _ _)
  | true =>
    have HGO := Lib.hid hgo
    clear hgo
    cases hnb : nameB s.data.toList with
    | false =>
      have HQ : Hid (R = (1, tickM D)) := Lib.hid (by rw [HR.out, if_neg (by rw [HGO.out]; decide), if_pos hnb])
      rw [hnb] at HNM
      clear hnb hr1
      go_wp2_with fail
      refine (HNM.out).mono ?_
      rintro e w2 ⟨rfl, rfl⟩
      go_wp2_with fail
      go_ret
      rw [HQ.out]
      refine ⟨rfl, ?_⟩
      rw [HTK.out]
      exact codV_same HF.out HR1.out HFS1.out HD.out HK1.out (Below.refl _ _)
    | true =>
      have hsz : s.size ≤ 100 := by
        unfold nameB at hnb
        rw [Bool.and_eq_true, decide_eq_true_eq, decide_eq_true_eq, size_data] at hnb
        exact hnb.2
      rw [hnb] at HNM
      have HSZ : Hid (s.size ≤ maxLen) := Lib.hid (by unfold maxLen; omega)
      have HQ : Hid (R = if fullM D s.data.toList ls.flatten.length = true then (3, tickM D) else (0, withM (tickM D) (addM D.fs s.data.toList ls.flatten))) := Lib.hid (by rw [HR.out, if_neg (by rw [HGO.out]; decide), if_neg (by rw [hnb]; decide)])
      have c1 : w1.cell? ⟨g, 1, none⟩ = some mv := hr1.cell rfl
      have hlook := look_any HFS1.out.1 s HSZ.out
      have hlen := fun ty => len_any HFS1.out.1 ty
      have hrl : rs.length = D.fs.length := by have := congrArg List.length HD.out; simpa using this
      have heqf : ∀ (W : World), (List.length rs : Int) = (D.fs.length : Int) := fun _ => by omega
      have HHO := Lib.hid (holds_any g room mv (o1 : Int) cut (l1 : Int) rs ls (.slice A n C) w1 HR1.out HFS1.out.1 (filesAt_cells HFS1.out) (sortM_names HFS1.out.2.2.2.2) (by rw [HD.out, HRO.out]; exact HOK.out.2.1) (by rw [HRO.out]; exact HOK.out.1) (HP.out w1 HK1.out) HL.out HNB.out)
      obtain ⟨q, hq⟩ : ∃ q, q = rs.length := ⟨_, rfl⟩
      rw [← hq] at hlen
      have HQL : Hid (q = D.fs.length) := Lib.hid (by rw [hq, hrl])
      have hqb : (q : Int) < 1099511627776 := by have := HOK.out.2.2.2.2; have := HQL.out; omega
      clear hnb hr1 hsz hrl heqf hq
      obtain ⟨p, hpv⟩ : ∃ p, p = findR rs s.data.toList := ⟨_, rfl⟩
      rw [← hpv] at hlook
      have HPV := Lib.hid hpv
      clear hpv
      obtain ⟨M, hM⟩ : ∃ M, M = ls.flatten.length := ⟨_, rfl⟩
      rw [← hM] at HQ HHO
      have HM := Lib.hid hM
      clear hM
      rw [HD.out, HRO.out] at HHO
      obtain ⟨bh, hbh⟩ : ∃ bh, bh = decide (sizeM D.fs + M ≤ D.room) := ⟨_, rfl⟩
      rw [← hbh] at HHO
      have HBH := Lib.hid hbh
      clear hbh
      cases p with
      | none =>
        have HFN := Lib.hid (findR_none_f HD.out HPV.out.symm)
        simp only [recP] at hlook
        by_cases h64 : 64 ≤ q
        · have hy : (64 : Int) ≤ (q : Int) := by omega
          have HQ3 : Hid (R = (3, tickM D)) := Lib.hid (by
            rw [HQ.out, if_pos]
            unfold fullM
            rw [HFN.out, ← HQL.out]
            simp [h64])
          clear h64
          go_wp2_with fail
          refine (HNM.out).mono ?_
          rintro e w2 ⟨rfl, rfl⟩
          go_wp2_with fail
          go_ret
          rw [HQ3.out]
          refine ⟨rfl, ?_⟩
          rw [HTK.out]
          exact codV_same HF.out HR1.out HFS1.out HD.out HK1.out (Below.refl _ _)
        · have hy : ¬ (64 : Int) ≤ (q : Int) := by omega
          have H64 := Lib.hid h64
          clear h64
          cases bh with
          | false =>
            have HQ3 : Hid (R = (3, tickM D)) := Lib.hid (by
              rw [HQ.out, if_pos]
              unfold fullM
              rw [← HBH.out]
              simp)
            go_wp2_with fail
            refine (HNM.out).mono ?_
            rintro e w2 ⟨rfl, rfl⟩
            go_wp2_with fail
            refine (HHO.out).mono ?_
            rintro e w3 ⟨rfl, hb3⟩
            have HB3 := Lib.hid hb3
            clear hb3
            go_wp2_with fail
            go_ret
            rw [HQ3.out]
            refine ⟨rfl, ?_⟩
            rw [HTK.out]
            exact codV_same HF.out HR1.out HFS1.out HD.out HK1.out HB3.out
          | true =>
            have HQ0 : Hid (R = (0, withM (tickM D) (addM D.fs s.data.toList ls.flatten))) := Lib.hid (by
              rw [HQ.out, if_neg]
              unfold fullM
              rw [← HBH.out, HFN.out, ← HQL.out]
              simpa using H64.out)
            go_wp2_with fail
            refine (HNM.out).mono ?_
            rintro e w2 ⟨rfl, rfl⟩
            go_wp2_with fail
            refine (HHO.out).mono ?_
            rintro e w3 ⟨rfl, hb3⟩
            have HB3 := Lib.hid hb3
            clear hb3 c1 hlook hlen hqb
            go_wp2_with (refine wpList_alloc_z rfl 78 rfl #[.slice none 0 0, .int .i64 0] (zero_cells Try.infoFile) ?_)
            obtain ⟨w4, hw4⟩ : ∃ w4, w4 = w3.alloc (.cells #[.slice none 0 0, .int .i64 0] 78) := ⟨_, rfl⟩
            obtain ⟨gx, hgx⟩ : ∃ gx, gx = w3.heap.size := ⟨_, rfl⟩
            have hk3 : Kept (fun _ => False) w2 w4 := by rw [hw4]; exact kept_alloc (kept_below HB3.out) _
            have hr4 := rw_kept HR1.out hk3 (fun h => h)
            have hfs4 := filesAt_more (G := Up F w.heap.size) (filesAt_keep HFS1.out hk3 (fun _ hk => hk.elim)) (fun _ hk => .inl hk)
            have hx4 : RecAt w4 (Up F w.heap.size) ⟨⟨s.data.toList, [], 0⟩, gx, .slice none 0 0⟩ := by
              refine ⟨.inr ?_, ?_, ⟨⟨rfl, .inl ⟨rfl, rfl⟩⟩, fun k hk => by simp [Value.ownBlock] at hk⟩, Nat.le_refl _⟩
              · rw [hgx]; exact Nat.le_trans HK1.out.size HB3.out.size
              · rw [hw4, hgx]; exact Rw.alloc w3 _ _ (Nat.zero_le _)
            have hap : ∀ y ∈ rs, ApartR ⟨⟨s.data.toList, [], 0⟩, gx, .slice none 0 0⟩ y := fun y hy => by
              refine ⟨fun e => ?_, fun k hk => by simp [Value.ownBlock] at hk⟩
              have h1 := Rw.size (HFS1.out.2.2.1 y hy).2.1
              have h2 := HB3.out.size
              simp only at e
              omega
            have hput := dput_any g room mv o1 cut l1 rs ⟨⟨s.data.toList, [], 0⟩, gx, .slice none 0 0⟩ s w4 hr4 hfs4.1 rfl HSZ.out (by have := HOK.out.2.2.2.2; have := HQL.out; rw [show rs.length = D.fs.length by have := congrArg List.length HD.out; simpa using this]; omega)
            have HPUT := Lib.hid hput
            have HX4 := Lib.hid hx4
            have HAP := Lib.hid hap
            have HFS4 := Lib.hid hfs4
            have HR4 := Lib.hid hr4
            have HK4 := Lib.hid (kept_then HK1.out hk3 (fun _ hk => hk.elim))
            simp only [← hgx]
            rw [← hw4]
            clear hput hx4 hap hfs4 hr4 hk3 hw4 hgx
            go_wp2_with fail
            refine (HPUT.out).mono ?_
            rintro e w5 ⟨rfl, hd5⟩
            obtain ⟨b, hr5, hfs5, hk5⟩ := filesAt_put HFS4.out HR4.out HX4.out HAP.out hd5
            have hx5 := hfs5.2.2.1 _ (putR_self ⟨⟨s.data.toList, [], 0⟩, gx, .slice none 0 0⟩ rs)
            have hk05 := kept_then HK4.out hk5 (fun k hk => hk.elim (fun e => .inl (e ▸ HF.out)) (fun h => h.elim .inl .inr))
            have hadd := dadd_any gx [] (.slice none 0 0) 0 ls (.slice A n C) w5 hx5.2.1 hx5.2.2.1.1 (fun w6 hk6 => HP.out w6 (kept_then hk05 hk6 (fun k hk => hk.elim (fun e => by subst e; exact HX4.out.1) (fun h => by simp [Value.ownBlock] at h)))) (by have := HL.out; simpa using this) HNB.out
            have HADD := Lib.hid hadd
            have HR5 := Lib.hid hr5
            have HFS5 := Lib.hid hfs5
            have HK05 := Lib.hid hk05
            clear hadd hr5 hfs5 hk05 hx5 hd5 hk5
            go_wp2_with fail
            refine (HADD.out).mono ?_
            rintro e w6 ⟨rfl, ha6⟩
            have hend := app_add (w := w) (F := Up F w.heap.size) (.inl HF.out) HR5.out (filesAt_more HFS5.out (fun k hk => hk.elim id (fun h => .inr (Nat.le_trans HK4.out.size h)))) (putR_self _ rs) ha6 (Nat.zero_le _) HK05.out.size
            have HEND := Lib.hid hend
            clear hend ha6
            go_wp2_with fail
            go_ret
            rw [HQ0.out]
            refine ⟨rfl, codAt_more (F := Up (Up F w.heap.size) w.heap.size) ?_ (fun k hk => hk.elim id .inr), kept_then HK05.out HEND.out.2 (fun k hk => hk)⟩
            have h1 := HEND.out.1
            rw [putR_f, HD.out, setM_put, List.nil_append] at h1
            unfold withM
            rw [HTK.out]
            unfold addM
            rw [HFN.out]
            exact h1
      | some x =>
        have HFN := Lib.hid (findR_some_f HD.out HPV.out.symm)
        obtain ⟨hxm, hxn⟩ := findR_some HPV.out.symm
        simp only [recP] at hlook
        cases bh with
        | false =>
          have HQ3 : Hid (R = (3, tickM D)) := Lib.hid (by
            rw [HQ.out, if_pos]
            unfold fullM
            rw [← HBH.out]
            simp)
          clear hxm hxn
          go_wp2_with fail
          refine (HNM.out).mono ?_
          rintro e w2 ⟨rfl, rfl⟩
          go_wp2_with fail
          refine (HHO.out).mono ?_
          rintro e w3 ⟨rfl, hb3⟩
          have HB3 := Lib.hid hb3
          clear hb3
          go_wp2_with fail
          go_ret
          rw [HQ3.out]
          refine ⟨rfl, ?_⟩
          rw [HTK.out]
          exact codV_same HF.out HR1.out HFS1.out HD.out HK1.out HB3.out
        | true =>
          have HQ0 : Hid (R = (0, withM (tickM D) (addM D.fs s.data.toList ls.flatten))) := Lib.hid (by
            rw [HQ.out, if_neg]
            unfold fullM
            rw [← HBH.out, HFN.out]
            simp)
          have HXM := Lib.hid hxm
          have HXN := Lib.hid hxn
          clear hxm hxn
          go_wp2_with fail
          refine (HNM.out).mono ?_
          rintro e w2 ⟨rfl, rfl⟩
          go_wp2_with fail
          refine (HHO.out).mono ?_
          rintro e w3 ⟨rfl, hb3⟩
          have hk3 : Kept (fun _ => False) w2 w3 := kept_below hb3
          have hr3 := rw_kept HR1.out hk3 (fun h => h)
          have hfs3 := filesAt_keep HFS1.out hk3 (fun _ hk => hk.elim)
          have hx3 := hfs3.2.2.1 x HXM.out
          have hk03 := kept_then HK1.out hk3 (fun _ hk => hk.elim)
          have hadd := dadd_any x.g x.f.b x.u x.f.syn ls (.slice A n C) w3 hx3.2.1 hx3.2.2.1.1 (fun w6 hk6 => HP.out w6 (kept_then hk03 hk6 (fun k hk => hk.elim (fun e => .inl (e ▸ hx3.1)) (fun h => .inl (hx3.2.2.1.2 k h))))) (by
            have h1 := HBH.out.symm
            rw [decide_eq_true_eq] at h1
            have h2 : x.f.b.length ≤ sizeM D.fs := by
              rw [← HD.out]
              exact sizeM_mem (List.mem_map.2 ⟨x, HXM.out, rfl⟩)
            have h3 := HOK.out.1
            have h4 := HM.out
            omega) HNB.out
          have HADD := Lib.hid hadd
          have HR3 := Lib.hid hr3
          have HFS3 := Lib.hid hfs3
          have HK03 := Lib.hid hk03
          clear hadd hr3 hfs3 hk03 hx3 hk3 hb3 c1 hlook hlen hqb
          go_wp2_with fail
          refine (HADD.out).mono ?_
          rintro e w6 ⟨rfl, ha6⟩
          have hend := app_add (w := w) HF.out HR3.out HFS3.out HXM.out ha6 (by simp) HK03.out.size
          have HEND := Lib.hid hend
          clear hend ha6
          go_wp2_with fail
          go_ret
          rw [HQ0.out]
          refine ⟨rfl, ?_, kept_trans HK03.out HEND.out.2⟩
          have h1 := HEND.out.1
          rw [HD.out, HXN.out] at h1
          unfold withM
          rw [HTK.out]
          unfold addM
          rw [HFN.out]
          exact h1

end Go.Proofs.Ytfiocghgjjandaa
