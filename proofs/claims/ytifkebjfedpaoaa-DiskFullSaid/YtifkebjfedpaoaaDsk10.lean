/- Contracts: the code's Remove, Rename. -/
import Derived.BigRegion
import Derived.Deep.RegionHeld3
import Derived.Maps.OwnSet
import Derived.Test.YtifkebjfedpaoaaProg
import Derived.Test.YtifkebjfedpaoaaKit
import Derived.Test.YtifkebjfedpaoaaRow
import Derived.Test.YtifkebjfedpaoaaCod5
import Derived.Test.YtifkebjfedpaoaaCod7
import Derived.Test.YtifkebjfedpaoaaFrm4
import Derived.Test.YtifkebjfedpaoaaFp
import Derived.Test.YtifkebjfedpaoaaDsk0
import Derived.Test.YtifkebjfedpaoaaDsk1
import Derived.Test.YtifkebjfedpaoaaDsk2
import Derived.Test.YtifkebjfedpaoaaDsk6
import Derived.Test.YtifkebjfedpaoaaDsk7
import Derived.Test.YtifkebjfedpaoaaDsk9
namespace Go.Proofs.Ytifkebjfedpaoaa
open Go.RowKit Go.Proofs Go.Maps

theorem apart_of {w : World} {F : Nat → Prop} {mv : Value} {rs : List Rec} {x z : Rec} (h : FilesAt w F mv rs) (hx : x ∈ rs) (hz : z ∈ rs) (hn : z.f.name ≠ x.f.name) : ApartR x z := by
  have hp := h.2.2.2.1
  obtain ⟨i, hi, rfl⟩ := List.getElem_of_mem hx
  obtain ⟨j, hj, rfl⟩ := List.getElem_of_mem hz
  rcases Nat.lt_trichotomy i j with h | rfl | h
  · exact List.pairwise_iff_getElem.1 hp i j hi hj h
  · exact absurd rfl hn
  · exact apartR_symm (List.pairwise_iff_getElem.1 hp j i hj hi h)

theorem mapV_block {w : World} {mv : Value} {rs : List Rec} {x : Rec} (h : MapV w mv rs) (hx : x ∈ rs) : ∃ b, mv = .map (some b) ∧ MapAt w b rs := by
  rcases h with ⟨_, rfl⟩ | ⟨b, hb, hm⟩
  · simp at hx
  · exact ⟨b, hb, hm⟩

theorem kept_grow {w w' : World} {b : Nat} (h : w.grownBy w' (some b)) : Kept (fun k => k = b) w w' := kept_grown (kept_refl _ w) h (fun g hg => .inl (by injection hg with hg; exact hg.symm))

theorem del_at {w' : World} {b : Nat} {rs : List Rec} {s : List UInt8} (h : w'.ownsMap Try.prog 9 ptrR b rs.length ((DataW.map (rs.map entR)).del (.string s))) : MapAt w' b (dropR s rs) := by
  rw [entR_del] at h
  exact mapAt_tight h

set_option maxHeartbeats 1000000 in
theorem dremove_any (F : Nat → Prop) (g : Nat) (D : CodM) (s : ByteArray) (w : World) (h : CodAt w F g D) (hok : CodOk D) (hs : s.size ≤ maxLen) :
    Calls Try.prog 25 #[.pointer (some ⟨g, 0, none⟩), .string s] w fun e w' => e = .returned (.int .i64 (remM D s.data.toList).1) ∧ CodV w w' F g (remM D s.data.toList).2 := by
  obtain ⟨hF, mv, rs, hr, hfs, hD⟩ := h
  have hch := change_any F g D s w mv rs hF hr hfs hok hs
  obtain ⟨R, hR⟩ : ∃ R, R = remM D s.data.toList := ⟨_, rfl⟩
  rw [← hR]
  unfold remM at hR
  have HR := Lib.hid hR
  have HF := Lib.hid hF
  have HD := Lib.hid hD
  have HS := Lib.hid hs
  clear hr hfs hok hF hD hR hs
  cases hgo : goesM D with
  | false =>
    rw [chV_off hgo] at hch
    have HCH := Lib.hid hch
    have HQ : Hid (R = (6, tickM D)) := Lib.hid (by rw [HR.out, if_pos hgo])
    clear hgo hch
    go_enter Try.func25, Try.ntmps25
    go_wp2_with fail
    refine (HCH.out).mono ?_
    rintro e w1 ⟨rfl, hr1, hfs1, hk1⟩
    have HV := Lib.hid (codV_tick HF.out hr1 hfs1 HD.out hk1)
    clear hr1 hfs1 hk1
    go_wp2_with fail
    go_ret
    rw [HQ.out]
    exact ⟨rfl, HV.out⟩
  | true =>
    cases hq : findR rs s.data.toList with
    | none =>
      rw [chV_none hgo hq] at hch
      have HCH := Lib.hid hch
      have HQ : Hid (R = (4, tickM D)) := Lib.hid (by rw [HR.out, if_neg (by rw [hgo]; decide), findR_none_f HD.out hq])
      clear hgo hch hq
      go_enter Try.func25, Try.ntmps25
      go_wp2_with fail
      refine (HCH.out).mono ?_
      rintro e w1 ⟨rfl, hr1, hfs1, hk1⟩
      have HV := Lib.hid (codV_tick HF.out hr1 hfs1 HD.out hk1)
      clear hr1 hfs1 hk1
      go_wp2_with fail
      go_ret
      rw [HQ.out]
      exact ⟨rfl, HV.out⟩
    | some x =>
      rw [chV_some hgo hq] at hch
      obtain ⟨hxm, _⟩ := findR_some hq
      have HCH := Lib.hid hch
      have HQ : Hid (R = (0, withM (tickM D) (dropM s.data.toList D.fs))) := Lib.hid (by rw [HR.out, if_neg (by rw [hgo]; decide), findR_some_f HD.out hq])
      have HXM := Lib.hid hxm
      clear hgo hch hq hxm
      go_enter Try.func25, Try.ntmps25
      go_wp2_with fail
      refine (HCH.out).mono ?_
      rintro e w1 ⟨rfl, hr1, hfs1, hk1⟩
      obtain ⟨b, rfl, hm1⟩ := mapV_block hfs1.1 HXM.out
      have c1 : w1.cell? ⟨g, 1, none⟩ = some (.map (some b)) := hr1.cell rfl
      have HM1 := Lib.hid hm1
      have HR1 := Lib.hid hr1
      have HFS1 := Lib.hid hfs1
      have HK1 := Lib.hid hk1
      clear hr1 hfs1 hk1 hm1
      go_wp2_with (first | (at_delete; refine wpList_delete_own _ rfl _ _ 59 9 rfl 77 Try.keyS Try.underlying59 ptrR b rs.length (.map (rs.map entR)) rfl HM1.out _ _ rfl (key_of s HS.out) ?_; intro w2 hown2 hturn2) | fail)
      have hk2 := kept_grow (World.mapTurned.grown hturn2)
      have hfs2 := filesAt_drop HFS1.out (del_at hown2) hk2
      have HV : Hid (CodV w w2 F g (withM (tickM D) (dropM s.data.toList D.fs))) := Lib.hid (by
        refine ⟨⟨.inl HF.out, .map (some b), _, rw_kept HR1.out hk2 (fun e => map_ne HM1.out HR1.out e.symm), filesAt_more hfs2 (fun k hk => .inl hk), ?_⟩, kept_trans HK1.out (kept_mono hk2 (fun k hk => .inl (by rw [hk]; exact HFS1.out.2.1 b rfl)))⟩
        rw [dropR_f, HD.out]
        rfl)
      clear hown2 hturn2 hk2 hfs2
      go_wp2_with fail
      go_ret
      rw [HQ.out]
      exact ⟨rfl, HV.out⟩

set_option maxHeartbeats 1000000 in
theorem drename_any (F : Nat → Prop) (g : Nat) (D : CodM) (s t : ByteArray) (w : World) (h : CodAt w F g D) (hok : CodOk D) (hs : s.size ≤ maxLen) :
    Calls Try.prog 23 #[.pointer (some ⟨g, 0, none⟩), .string s, .string t] w fun e w' => e = .returned (.int .i64 (renM D s.data.toList t.data.toList).1) ∧ CodV w w' F g (renM D s.data.toList t.data.toList).2 := by
  obtain ⟨hF, mv, rs, hr, hfs, hD⟩ := h
  have hch := change_any F g D s w mv rs hF hr hfs hok hs
  obtain ⟨R, hR⟩ : ∃ R, R = renM D s.data.toList t.data.toList := ⟨_, rfl⟩
  rw [← hR]
  unfold renM at hR
  have HR := Lib.hid hR
  have HF := Lib.hid hF
  have HD := Lib.hid hD
  have HS := Lib.hid hs
  have HLE : Hid (rs.length < 1099511627776) := Lib.hid (by
    have h1 := hok.2.2.2.2
    rw [← hD, List.length_map] at h1
    exact h1)
  clear hr hfs hok hF hD hR hs
  cases hgo : goesM D with
  | false =>
    rw [chV_off hgo] at hch
    have HCH := Lib.hid hch
    have HQ : Hid (R = (6, tickM D)) := Lib.hid (by rw [HR.out, if_pos hgo])
    clear hgo hch
    go_enter Try.func23, Try.ntmps23
    go_wp2_with fail
    refine (HCH.out).mono ?_
    rintro e w1 ⟨rfl, hr1, hfs1, hk1⟩
    have HV := Lib.hid (codV_tick HF.out hr1 hfs1 HD.out hk1)
    clear hr1 hfs1 hk1
    go_wp2_with fail
    go_ret
    rw [HQ.out]
    exact ⟨rfl, HV.out⟩
  | true =>
    cases hq : findR rs s.data.toList with
    | none =>
      rw [chV_none hgo hq] at hch
      have HCH := Lib.hid hch
      have HQ : Hid (R = (4, tickM D)) := Lib.hid (by rw [HR.out, if_neg (by rw [hgo]; decide), findR_none_f HD.out hq])
      clear hgo hch hq
      go_enter Try.func23, Try.ntmps23
      go_wp2_with fail
      refine (HCH.out).mono ?_
      rintro e w1 ⟨rfl, hr1, hfs1, hk1⟩
      have HV := Lib.hid (codV_tick HF.out hr1 hfs1 HD.out hk1)
      clear hr1 hfs1 hk1
      go_wp2_with fail
      go_ret
      rw [HQ.out]
      exact ⟨rfl, HV.out⟩
    | some x =>
      rw [chV_some hgo hq] at hch
      obtain ⟨hxm, hxn⟩ := findR_some hq
      have HCH := Lib.hid hch
      have HQ0 : Hid (R = if nameB t.data.toList = false then (1, tickM D) else (0, withM (tickM D) (putM ⟨t.data.toList, x.f.b, x.f.syn⟩ (dropM s.data.toList D.fs)))) := Lib.hid (by rw [HR.out, if_neg (by rw [hgo]; decide), findR_some_f HD.out hq])
      have HXM := Lib.hid hxm
      have HXN := Lib.hid hxn
      clear hgo hch hq hxm hxn
      have hnm := fun W => nameable_any t W
      cases hnb : nameB t.data.toList with
      | false =>
        have HQ : Hid (R = (1, tickM D)) := Lib.hid (by rw [HQ0.out, if_pos hnb])
        rw [hnb] at hnm
        have HNM := Lib.hid hnm
        clear hnb hnm
        go_enter Try.func23, Try.ntmps23
        go_wp2_with fail
        refine (HCH.out).mono ?_
        rintro e w1 ⟨rfl, hr1, hfs1, hk1⟩
        have HV := Lib.hid (codV_tick HF.out hr1 hfs1 HD.out hk1)
        clear hr1 hfs1 hk1
        go_wp2_with fail
        refine (HNM.out _).mono ?_
        rintro e w2 ⟨rfl, rfl⟩
        go_wp2_with fail
        go_ret
        rw [HQ.out]
        exact ⟨rfl, HV.out⟩
      | true =>
        have HT : Hid (t.size ≤ maxLen) := Lib.hid (by
          unfold nameB at hnb
          rw [Bool.and_eq_true, decide_eq_true_eq, decide_eq_true_eq, size_data] at hnb
          unfold maxLen
          omega)
        have HQ : Hid (R = (0, withM (tickM D) (putM ⟨t.data.toList, x.f.b, x.f.syn⟩ (dropM s.data.toList D.fs)))) := Lib.hid (by rw [HQ0.out, if_neg (by rw [hnb]; decide)])
        rw [hnb] at hnm
        have HNM := Lib.hid hnm
        clear hnb hnm
        go_enter Try.func23, Try.ntmps23
        go_wp2_with fail
        refine (HCH.out).mono ?_
        rintro e w1 ⟨rfl, hr1, hfs1, hk1⟩
        obtain ⟨b, rfl, hm1⟩ := mapV_block hfs1.1 HXM.out
        have c1 : w1.cell? ⟨g, 1, none⟩ = some (.map (some b)) := hr1.cell rfl
        have HM1 := Lib.hid hm1
        have HR1 := Lib.hid hr1
        have HFS1 := Lib.hid hfs1
        have HK1 := Lib.hid hk1
        clear hr1 hfs1 hk1 hm1
        go_wp2_with fail
        refine (HNM.out _).mono ?_
        rintro e w2 ⟨rfl, rfl⟩
        go_wp2_with (first | (at_delete; refine wpList_delete_own _ rfl _ _ 59 9 rfl 77 Try.keyS Try.underlying59 ptrR b rs.length (.map (rs.map entR)) rfl HM1.out _ _ rfl (key_of s HS.out) ?_; intro w3 hown3 hturn3) | fail)
        have hk3 := kept_grow (World.mapTurned.grown hturn3)
        have hfs3 := filesAt_drop HFS1.out (del_at hown3) hk3
        have hr3 := rw_kept HR1.out hk3 (fun e => map_ne HM1.out HR1.out e.symm)
        have hX := HFS1.out.2.2.1 x HXM.out
        have hx3 : RecAt w3 F ⟨⟨t.data.toList, x.f.b, x.f.syn⟩, x.g, x.u⟩ :=
          recAt_keep (x := ⟨⟨t.data.toList, x.f.b, x.f.syn⟩, x.g, x.u⟩) ⟨hX.1, hX.2.1, hX.2.2.1, hX.2.2.2⟩ hk3 (fun e => map_ne HM1.out hX.2.1 e.symm) (fun k hk e => by subst e; exact map_own HM1.out hX.2.2.1.1 hk)
        have hap : ∀ y ∈ dropR s.data.toList rs, ApartR ⟨⟨t.data.toList, x.f.b, x.f.syn⟩, x.g, x.u⟩ y := fun y hy => by
          obtain ⟨hy, hyn⟩ := dropR_mem.1 hy
          have ha := apart_of HFS1.out HXM.out hy (by rw [HXN.out]; exact hyn)
          exact ⟨ha.1, ha.2⟩
        have hput := dput_any g D.room (.map (some b)) (tickM D).ops D.cut (tickM D).left (dropR s.data.toList rs) ⟨⟨t.data.toList, x.f.b, x.f.syn⟩, x.g, x.u⟩ t w3 hr3 hfs3.1 rfl HT.out (Nat.lt_of_le_of_lt (List.length_filter_le _ _) HLE.out)
        have HPUT := Lib.hid hput
        have HFS3 := Lib.hid hfs3
        have HR3 := Lib.hid hr3
        have HX3 := Lib.hid hx3
        have HAP := Lib.hid hap
        have HK3 : Hid (Kept F w w3) := Lib.hid (kept_trans HK1.out (kept_mono hk3 (fun k hk => .inl (by rw [hk]; exact HFS1.out.2.1 b rfl))))
        clear hput hfs3 hr3 hx3 hap hk3 hX hown3 hturn3 c1
        go_wp2_with fail
        refine (HPUT.out).mono ?_
        rintro e w4 ⟨rfl, hd4⟩
        obtain ⟨b4, hr4, hfs4, hk4⟩ := filesAt_put HFS3.out HR3.out HX3.out HAP.out hd4
        have HV : Hid (CodV w w4 F g (withM (tickM D) (putM ⟨t.data.toList, x.f.b, x.f.syn⟩ (dropM s.data.toList D.fs)))) := Lib.hid (by
          refine ⟨⟨.inl HF.out, _, _, hr4, filesAt_more hfs4 (fun k hk => hk.elim .inl (fun h => .inr (Nat.le_trans HK3.out.size h))), ?_⟩, kept_trans HK3.out (kept_mono hk4 (fun k hk => .inl (hk.elim (fun e => e ▸ HF.out) id)))⟩
          rw [putR_f, dropR_f, HD.out]
          rfl)
        clear hd4 hr4 hfs4 hk4
        go_wp2_with fail
        go_ret
        rw [HQ.out]
        exact ⟨rfl, HV.out⟩

end Go.Proofs.Ytifkebjfedpaoaa
