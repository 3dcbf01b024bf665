/- Contracts: keep: Cut(2) of a Keep with two entries. -/
import Derived.BigRegion
import Derived.Deep.RegionHeld3
import Derived.Deep.QuietTactic
import Derived.BigQuiet
import Derived.IntWalk
import Derived.Test.YtageldnhchgplaaGreatDoorProg
import Derived.Test.YtageldnhchgplaaGreatDoorKit
import Derived.Test.YtageldnhchgplaaGreatDoorRow
import Derived.Test.YtageldnhchgplaaGreatDoorCod7
import Derived.Test.YtageldnhchgplaaGreatDoorFrm3
import Derived.Test.YtageldnhchgplaaGreatDoorFrm4
import Derived.Test.YtageldnhchgplaaGreatDoorDsk9
import Derived.Test.YtageldnhchgplaaGreatDoorDsk17
import Derived.Test.YtageldnhchgplaaGreatDoorDsk19
import Derived.Test.YtageldnhchgplaaGreatDoorNet0
import Derived.Test.YtageldnhchgplaaGreatDoorKp0
import Derived.Test.YtageldnhchgplaaGreatDoorKp5
import Derived.Test.YtageldnhchgplaaGreatDoorKp6
import Derived.Test.YtageldnhchgplaaGreatDoorKp10
import Derived.Test.YtageldnhchgplaaGreatDoorKp14
import Derived.Test.YtageldnhchgplaaGreatDoorKp18
import Derived.Test.YtageldnhchgplaaGreatDoorKp22
namespace Go.Proofs.YtageldnhchgplaaGreatDoor
open Go.RowKit Go.Proofs

theorem ownE_first {W : World} {lb lc : Nat} {r0 r1 : RecE} (h : OwnE W 0 (.slice (some ⟨lb, 0, none⟩) 2 lc) [r0, r1]) : OwnE W 0 (.slice (some ⟨lb, 0, none⟩) 1 lc) [r0] := by
  refine ⟨⟨by rw [rowsE_len], .inr ?_⟩, fun r hr => h.2 r (by simp at hr ⊢; exact .inl hr)⟩
  rcases h.1.2 with ⟨hv, _⟩ | ⟨g, cap, cur, hv, hb, hg, hn, hm, hsz, ht⟩
  · injection hv with hv
    cases hv
  · injection hv with e1 e2 e3
    injection e1 with e1
    injection e1 with e1
    subst e1 e3
    refine ⟨lb, lc, cur, rfl, hb, hg, by simp at hn ⊢; omega, hm, hsz, ?_⟩
    have h2 := congrArg (List.take 5) ht
    rw [List.take_take] at h2
    rw [show (([r0] : List RecE).length * 5) = min 5 (([r0, r1] : List RecE).length * 5) by simp, h2]
    have := rowsE_take [r0, r1] 1
    simpa using this.symm

theorem slice_cap {W : World} {lb lc n : Nat} {e : TypeId} {sz : Nat} {xs : List Value} (h : W.ownsRow 0 e sz (.slice (some ⟨lb, 0, none⟩) n lc) n xs) : n ≤ lc ∧ lc ≤ maxLen := by
  rcases h.2 with ⟨hv, _⟩ | ⟨g, cap, cur, hv, hb, hg, hn, hm, _⟩
  · injection hv with hv
    cases hv
  · injection hv with e1 e2 e3
    subst e3
    exact ⟨hn, hm⟩

set_option maxRecDepth 100000 in
set_option maxHeartbeats 1000000 in
theorem capply_two {W : World} {gn lb lc lz : Nat} {x0 x1 x3 x4 x5 : Value} {r0 r1 : RecE} (h : Rw W 0 gn 53 [x0, x1, .int .i64 0, x3, x4, x5, .slice (some ⟨lb, 0, none⟩) 2 lc, .int .i64 lz]) (ho : OwnE W 0 (.slice (some ⟨lb, 0, none⟩) 2 lc) [r0, r1]) (hcm : lc ≤ 9223372036854775807) (hz : lz ≤ 1000000) (hs : szE r1.e ≤ 1000000) :
    Calls Tryz.prog 135 #[.int .i64 2, .pointer (some ⟨gn, 0, none⟩)] W fun e w' => e = .returned (.tuple #[]) ∧ ∃ V, Below W.heap.size W V ∧ w' = (V.setCell ⟨gn, 7, none⟩ (.int .i64 ((lz : Int) - (ensz [r1.e] : Int)))).setCell ⟨gn, 6, none⟩ (.slice (some ⟨lb, 0, none⟩) 1 lc) := by
  have HO := Lib.hid (konly_two h ho (slice_cap ho.1).1 hcm hz hs)
  have c2 := Rw.cell (j := 2) (v := .int .i64 0) h rfl
  clear h ho hcm hz hs
  go_enter Tryz.func135, Tryz.ntmps135
  go_wp2_with fail
  refine HO.out.mono ?_
  rintro e w1 ⟨rfl, V, hb, hw⟩
  have HB := Lib.hid hb
  have HW := Lib.hid hw
  clear hb hw
  go_wp2_with fail
  go_end0
  exact ⟨rfl, V, HB.out, HW.out⟩

set_option maxRecDepth 100000 in
set_option maxHeartbeats 1000000 in
theorem kcut_two {w0 w : World} {Z : Nat → Prop} {g kb R : Nat} {s sp : ByteArray} {b : List UInt8} {ops : Nat} {t q : Int} {lb lc lz : Nat} {r0 r1 : RecE} (h : KepAt w0 w Z g kb R s sp b ops t q (some ⟨lb, 0, none⟩) lc [r0, r1] lz) (hok : KepOk w0 R s)
    (hcm : lc ≤ 9223372036854775807) (hs : szE r1.e ≤ 1000000) (hX : ensz [r1.e] ≤ lz) (hl : b.length + totL (chFrS [.cut 2]) ≤ 500) (ho : ops < 100000000) (hlz : lz ≤ 100000) :
    Calls Tryz.prog 9 #[.pointer (some ⟨kb, 0, none⟩), .int .i64 2] w fun e w' => e = .returned (.int .i64 0) ∧ (∃ b', b'.length = b.length + totL (chFrS [.cut 2]) ∧ KepAt w0 w' Z g kb R s sp b' (ops + 2) t q (some ⟨lb, 0, none⟩) lc [r0] (lz - ensz [r1.e])) ∧ KepV w0 w w' Z kb := by
  obtain ⟨X, hXe⟩ : ∃ X, X = ensz [r1.e] := ⟨_, rfl⟩
  rw [← hXe] at hX ⊢
  have hdo := kdo_cut (kb := kb) (d := g) (nm := .string s) (sp := .string sp) (sz := .int .i64 b.length) 2 (t' := t) (q' := q) (ix' := 0) (tm' := 0) (lz' := ((lz - X : Nat) : Int)) (ma' := none) (la' := some ⟨lb, 0, none⟩) (mn' := 0) (mc' := 0) (ln' := 1) (lc' := lc) (sd' := ⟨#[]⟩)
    (R := fun W gn => Below w.heap.size w W ∧ w.heap.size ≤ gn ∧ Rw W 0 gn 53 (stV t q (some ⟨lb, 0, none⟩) 1 lc (lz - X)))
    (S := fun W' gn => ∃ W, (Below w.heap.size w W ∧ w.heap.size ≤ gn ∧ Rw W 0 gn 53 (stV t q (some ⟨lb, 0, none⟩) 1 lc (lz - X))) ∧ KaddV w0 W W' (fun k => Z k ∨ (w.heap.size ≤ k ∧ k < W.heap.size)) g kb (b.length + totL (chFrS [.cut 2])) (onD R s.data.toList (b ++ (chFrS [.cut 2]).flatten) (b ++ (chFrS [.cut 2]).flatten).length (ops + 2)))
    h.rwk ?hf ?hi ?ha ?hs ?hS
  case hf =>
    intro W gn hN
    refine (cfits_yes (Rw.cell (j := 2) hN.2.2 rfl) (by decide)).mono ?_
    rintro e w' ⟨rfl, rfl⟩
    exact ⟨rfl, Below.refl _ _⟩
  case hi =>
    intro W gn hN
    refine (cidle_no (n := 2) (Rw.cell (j := 2) hN.2.2 rfl) (Rw.cell (j := 6) hN.2.2 rfl) (by omega) (by omega) (by omega) (by omega)).mono ?_
    rintro e w' ⟨rfl, hd⟩
    exact ⟨rfl, below_draws (Below.refl _ _) hd⟩
  case ha =>
    intro W gn hN
    have hrW : Rw W 0 gn 53 [.int .i64 t, .int .i64 q, .int .i64 0, .int .i64 0, .slice none 0 0, .string ⟨#[]⟩, .slice (some ⟨lb, 0, none⟩) 2 lc, .int .i64 lz] := hN.2.2
    refine (capply_two hrW (ownE_below h.own hN.1) hcm (by omega) hs).mono ?_
    rintro e w' ⟨rfl, V, hb, rfl⟩
    rw [← hXe]
    refine ⟨rfl, ((hN.1.trans (hb.mono hN.1.size)).setCell (p := ⟨gn, 7, none⟩) hN.2.1 _).setCell (p := ⟨gn, 6, none⟩) hN.2.1 _, hN.2.1, ?_⟩
    have h1 := Rw.stored (Rw.stored (Rw.below hrW hb) 7 (.int .i64 ((lz : Int) - (X : Int)))) 6 (.slice (some ⟨lb, 0, none⟩) 1 lc)
    rw [show (lz : Int) - (X : Int) = ((lz - X : Nat) : Int) by omega] at h1 ⊢
    exact h1
  case hs =>
    rintro W gn ⟨hb, hgn, hr⟩
    have hd2 := dIn_new h.din hb
    have hrk := Rw.below h.rwk hb
    refine (kstore_ok (c := .cut 2) (lsz := lz - X) (sd := ⟨#[]⟩) (kep_sto hok rfl hd2 hrk (.inl h.zk) hl (by simp [chFrS]) ho) rfl (show 20 < 131072 by decide) (nib_stay hok.nib (dIn_below hd2)) (Rw.cell hr rfl) (Rw.cell hr rfl) (by show lz - X + 0 ≤ _; omega) hl).mono ?_
    rintro e w' ⟨rfl, hK⟩
    exact ⟨rfl, W, ⟨hb, hgn, hr⟩, hK⟩
  case hS =>
    rintro W' gn ⟨W, ⟨hb, hgn, hr⟩, w1, hd1, hk1, rfl⟩
    have hrk := Rw.below h.rwk hb
    have hne : kb ≠ gn := by have := Rw.size h.rwk; omega
    have h1 := rw_heap hr (hk1.2 gn (Rw.size hr) (.inr (.inr ⟨hgn, Rw.size hr⟩)))
    have h2 := rw_heap hrk (hk1.2 kb (Rw.size hrk) (.inr (.inl h.zk)))
    exact ⟨Rw.other h1 hne 11 _, _, Rw.stored h2 11 _, by simp⟩
  have HD := Lib.hid hdo
  have H := Lib.hid h
  clear h hdo hok hcm hs hX hl ho hlz hXe
  go_enter Tryz.func9, Tryz.ntmps9
  go_wp2_with fail
  refine HD.out.mono ?_
  rintro e w' ⟨rfl, Wx, gn, ⟨W, ⟨hb, hgn, hr⟩, hK⟩, rfl⟩
  have hrk := Rw.below H.out.rwk hb
  obtain ⟨e1, e2, e3, e4⟩ := kep_end (y8 := stV t q (some ⟨lb, 0, none⟩) 1 lc (lz - X)) hrk rfl rfl hK (.inl H.out.zk) H.out.kge
  have hfr : ∀ k, k < w.heap.size → (k < w0.heap.size ∨ Z k) → k ≠ kb → (Wx.setCells kb 0 (stV t q (some ⟨lb, 0, none⟩) 1 lc (lz - X))).heap[k]? = w.heap[k]? := fun k hk hz hne => (e4 k (Nat.lt_of_lt_of_le hk hb.size) (hz.imp id .inl) hne).trans (hb.block k hk)
  have hne1 : lb ≠ kb := fun e => own_rw H.out.own.1 H.out.rwk (by decide) (by rw [e]; rfl)
  have hne2 : ∀ r ∈ [r0, r1], ∀ k, r.u.ownBlock = some k → k ≠ kb := fun r hm k hk e => own_rw (H.out.own.2 r hm).1 H.out.rwk (by decide) (by rw [hk, e])
  have hf0 := ownE_first H.out.own
  have hown := ownE_keep hf0 (fun k hk => by
    have hk' : k = lb := by simp [Value.ownBlock] at hk; exact hk.symm
    subst hk'
    exact hfr _ (own_lt H.out.own.1 rfl) (.inr (H.out.zl _ rfl)) hne1) (fun r hm k hk => hfr k (own_lt (hf0.2 r hm).1 hk) (.inr (H.out.zm r (by simp at hm ⊢; exact .inl hm) k hk)) (hne2 r (by simp at hm ⊢; exact .inl hm) k hk))
  have hfin : KepAt w0 (Wx.setCells kb 0 (stV t q (some ⟨lb, 0, none⟩) 1 lc (lz - X))) Z g kb R s sp (b ++ (chFrS [.cut 2]).flatten) (ops + 2) t q (some ⟨lb, 0, none⟩) lc [r0] (lz - X) :=
    ⟨dIn_less e1 (fun _ hk => .inl hk), by rw [List.length_append]; exact e2, hown, H.out.zk, H.out.kge, fun k hk => H.out.zl k hk, fun r hr k hk => H.out.zm r (by simp at hr ⊢; exact .inl hr) k hk⟩
  have HFIN := Lib.hid hfin
  have HFR : Hid (KepV w0 w (Wx.setCells kb 0 (stV t q (some ⟨lb, 0, none⟩) 1 lc (lz - X))) Z kb) := Lib.hid ⟨Nat.le_trans hb.size e3, hfr⟩
  clear hb hgn hr hK hrk e1 e2 e3 e4 hfr hne1 hne2 hown hfin hf0
  go_wp2_with fail
  go_ret
  exact ⟨rfl, ⟨_, by rw [List.length_append]; rfl, HFIN.out⟩, HFR.out⟩

theorem kepAt_below {w0 w w' : World} {Z : Nat → Prop} {g kb R : Nat} {s sp : ByteArray} {b : List UInt8} {ops : Nat} {t q : Int} {la : Option Addr} {lc : Nat} {rs : List RecE} {lz : Nat} (h : KepAt w0 w Z g kb R s sp b ops t q la lc rs lz) (hb : Below w.heap.size w w') : KepAt w0 w' Z g kb R s sp b ops t q la lc rs lz :=
  ⟨dIn_less (dIn_new h.din hb) (fun _ hk => .inl hk), Rw.below h.rwk hb, ownE_below h.own hb, h.zk, h.kge, h.zl, h.zm⟩

abbrev rlogS : ByteArray := ⟨#[114, 45, 108, 111, 103]⟩

theorem kepOk_fresh {w : World} (h : NibAt w) : KepOk w 1048576 rlogS := ⟨h, by decide, by decide, by decide, by decide⟩

set_option maxRecDepth 100000 in
set_option maxHeartbeats 1000000 in
theorem kfresh_any (w : World) : Calls Tryz.prog 6 #[] w fun e w' => ∃ g kb sp, e = .returned (.tuple #[.pointer (some ⟨g, 0, none⟩), .pointer (some ⟨kb, 0, none⟩), .bool true]) ∧ KepAt w w' (fun k => k = kb) g kb 1048576 rlogS sp [] 2 0 0 none 0 [] 0 := by
  go_enter Tryz.func6, Tryz.ntmps6
  go_wp2_with fail
  refine (dnew_any 1048576 w (by omega) (by omega)).mono ?_
  rintro e w1 h1
  rcases h1 with ⟨h1, _⟩ | ⟨_, _, rfl, hw1⟩
  · exact absurd ⟨by omega, by omega⟩ h1
  obtain ⟨g, hg⟩ : ∃ g, g = w.heap.size := ⟨_, rfl⟩
  have hd1 := dIn_new0 (room := 1048576) hw1
  rw [← hg] at hd1 ⊢
  have hsz : w.heap.size ≤ w1.heap.size := by rw [hw1]; simp
  have HOP := Lib.hid (kopen_new hd1 (by decide) ⟨#[114, 45]⟩ (by decide) (by decide) rlogS ⟨#[114, 45, 110, 101, 119]⟩ (by decide) (by decide))
  have HSZ := Lib.hid hsz
  clear hd1 hw1 hg hsz
  go_wp2_with fail
  refine HOP.out.mono ?_
  rintro e w2 ⟨kb, rfl, hkb, hd, _, hr⟩
  have HFIN : Hid (KepAt w w2 (fun k => k = kb) g kb 1048576 rlogS ⟨#[114, 45, 110, 101, 119]⟩ [] 2 0 0 none 0 [] 0) := Lib.hid
    ⟨dIn_less hd (fun _ hk => .inr hk), hr, nil_own w2, rfl, Nat.le_trans HSZ.out hkb, fun k hk => by simp [Value.ownBlock] at hk, fun r hr => absurd hr (by simp)⟩
  clear hkb hd hr
  go_wp2_with fail
  go_ret3
  exact ⟨g, kb, _, rfl, HFIN.out⟩

def awk1 : EntM := ⟨1, 2, 0, ⟨#[]⟩, []⟩

def awk2 : EntM := ⟨2, 2, 0, ⟨#[]⟩, []⟩

theorem ents_awake {w : World} {b : Nat} {T : TypeId} (h : Rw w 0 b T (rowsE [⟨awk1, .slice none 0 0⟩, ⟨awk2, .slice none 0 0⟩])) : EntsAt w (.slice (some ⟨b, 0, none⟩) 2 2) [awk1, awk2] := by
  refine ⟨_, 2, rfl, .inr ⟨b, 0, rfl, fun j e hj => ?_⟩⟩
  have h1 : ([⟨awk1, .slice none 0 0⟩, ⟨awk2, .slice none 0 0⟩] : List RecE)[j]? = some ⟨e, .slice none 0 0⟩ ∧ e.ms = [] := by
    match j, hj with
    | 0, hj => simp at hj; subst hj; exact ⟨rfl, rfl⟩
    | 1, hj => simp at hj; subst hj; exact ⟨rfl, rfl⟩
    | n + 2, hj => simp at hj
  refine ⟨.slice none 0 0, fun i v hi => ?_, ?_⟩
  · have h2 := rowsE_at h1.1 hi
    rw [Nat.zero_add]
    exact Rw.cell h h2
  · rw [h1.2]
    exact ⟨by simp, .inl ⟨rfl, rfl⟩⟩

theorem fits_awake : FitsA 0 [awk1, awk2] := fun j e hj => by
  match j, hj with
  | 0, hj => simp at hj; subst hj; decide
  | 1, hj => simp at hj; subst hj; decide
  | n + 2, hj => simp at hj

theorem two_awake {ns : List RecE} (h : ns.map (·.e) = [awk1, awk2]) : ∃ u v, ns = [⟨awk1, u⟩, ⟨awk2, v⟩] := by
  match ns, h with
  | [⟨a, u⟩, ⟨b, v⟩], h =>
    simp at h
    obtain ⟨rfl, rfl⟩ := h
    exact ⟨u, v, rfl⟩

theorem one_awake {ns : List RecE} (h : ns.map (·.e) = [awk1]) : ∃ u, ns = [⟨awk1, u⟩] := by
  match ns, h with
  | [⟨a, u⟩], h =>
    simp at h
    subst h
    exact ⟨u, rfl⟩

theorem own_awake {w : World} {e : TypeId} {sz n c : Nat} {a : Option Addr} {xs : List Value} (h : w.ownsRow 0 e sz (.slice a (n + 1) c) (n + 1) xs) : ∃ lb, a = some ⟨lb, 0, none⟩ := by
  rcases h.2 with ⟨hv, _⟩ | ⟨g, cap, cur, hv, _⟩
  · injection hv with _ h2
    exact absurd h2 (by omega)
  · injection hv with h1
    exact ⟨g, h1⟩

theorem tot_vote : totL (chFrS [.vote 3 1]) ≤ 100 := by decide +kernel

theorem tot_app : totL (chFrS [.app [awk1, awk2]]) ≤ 100 := by decide +kernel

theorem tot_cut : totL (chFrS [.cut 2]) ≤ 100 := by decide +kernel

theorem esz_awake : ensz [awk1, awk2] ≤ 1000 ∧ ensz [awk2] ≤ ensz [awk1, awk2] := by decide +kernel

theorem sz_awake : szCh (.app [awk1, awk2]) < 131072 := by decide +kernel

set_option maxRecDepth 100000 in
set_option maxHeartbeats 2000000 in
theorem kawake_any {w : World} (hn : NibAt w) : Calls Tryz.prog 5 #[] w fun e w' => e = .returned (.bool true) ∧ Below w.heap.size w w' := by
  have HOK := Lib.hid (kepOk_fresh hn)
  clear hn
  go_enter Tryz.func5, Tryz.ntmps5
  go_wp2_with fail
  refine (kfresh_any _).mono ?_
  rintro e w1 ⟨g, kb, sp, rfl, hK1⟩
  have HV := Lib.hid (kvote_any hK1 HOK.out 3 1 (by decide) (by decide) (by have := tot_vote; simp; omega) (by decide) (by decide))
  clear hK1
  go_wp2_with fail
  refine HV.out.mono ?_
  rintro e w2 ⟨rfl, ⟨b2, hb2, hK2⟩, _⟩
  have HK2 := Lib.hid hK2
  have HB2 := Lib.hid hb2
  clear hK2 hb2 HV
  go_wp2_with fail
  obtain ⟨wa, hwa⟩ : ∃ wa, wa = w2.alloc (.cells #[.int .i64 1, .int .i64 2, .int .i64 0, .string ⟨#[]⟩, .slice none 0 0, .int .i64 2, .int .i64 2, .int .i64 0, .string ⟨#[]⟩, .slice none 0 0] 32) := ⟨_, rfl⟩
  rw [← hwa]
  have hra : Rw wa 0 w2.heap.size 32 (rowsE [⟨awk1, .slice none 0 0⟩, ⟨awk2, .slice none 0 0⟩]) := by rw [hwa]; exact Rw.alloc w2 _ _ (Nat.zero_le _)
  have hKa : KepAt w wa (fun k => k = kb) g kb 1048576 rlogS sp b2 (2 + 2) 3 1 none 0 [] 0 := by rw [hwa]; exact kepAt_below HK2.out (below_more (Below.refl _ w2) _)
  have HA := Lib.hid (kapp_first (pn := 2) (es := [awk1, awk2]) hKa HOK.out rfl (ents_awake hra) fits_awake (by simp) (by decide) (by rw [HB2.out]; have h1 := tot_vote; have h2 := tot_app; simp at h1 h2 ⊢; omega) sz_awake (by decide) (by have := esz_awake.1; omega))
  clear hwa hra hKa HK2
  refine HA.out.mono ?_
  rintro e w3 ⟨rfl, ⟨b3, la, lc, ns, hns, hb3, hK3, _⟩, _⟩
  obtain ⟨u0, u1, rfl⟩ := two_awake hns
  obtain ⟨lb, rfl⟩ := own_awake hK3.own.1
  have hcap := (slice_cap hK3.own.1).2
  have HC := Lib.hid (kcut_two (r0 := ⟨awk1, u0⟩) (r1 := ⟨awk2, u1⟩) hK3 HOK.out (by unfold maxLen at hcap; omega) (show szE awk2 ≤ 1000000 by decide) (by have := esz_awake.2; show ensz [awk2] ≤ _; omega) (by rw [hb3, HB2.out]; have h1 := tot_vote; have h2 := tot_app; have h3 := tot_cut; simp at h1 h2 h3 ⊢; omega) (by decide) (by have := esz_awake.1; omega))
  clear hns hb3 hK3 hcap HA HB2
  go_wp2_with fail
  refine HC.out.mono ?_
  rintro e w4 ⟨rfl, ⟨b4, hb4, hK4⟩, _⟩
  have hh := khard_any (kp := .pointer (some ⟨kb, 0, none⟩)) (ms := []) (ma := none) (mc := 0) (es := [awk1]) (fun W hb => know_any (Rw.below hK4.rwk hb)) ⟨by simp, .inl ⟨rfl, rfl⟩⟩ (ownE_ents hK4.own) (by simp)
  have HH := Lib.hid hh
  have HBK := Lib.hid (dIn_below hK4.din)
  clear hb4 hK4 hh HC HOK
  go_wp2_with fail
  refine HH.out.mono ?_
  rintro e w5 ⟨a, c, a2, c2, ns, rfl, hns, hown, hb5, _⟩
  have HBF := Lib.hid (below_more (HBK.out.trans (hb5.mono HBK.out.size)) (.cells #[.int .i64 3, .int .i64 1, .int .i64 0, .int .i64 0, .slice a2 0 c2, .string ⟨#[]⟩, .slice a 1 c] 41))
  obtain ⟨u, rfl⟩ := one_awake hns
  obtain ⟨l5, rfl⟩ := own_awake hown.1
  have hc5 : w5.cell? ⟨l5, 1, none⟩ = some (.int .i64 2) := World.ownsRow.cellAt hown.1 1 (by decide)
  have HC5 : Hid (∀ o, (w5.alloc o).cell? ⟨l5, 1, none⟩ = some (.int .i64 2)) := Lib.hid (fun o => kcell_more hc5 o)
  have hx := HC5.out (.cells #[.int .i64 3, .int .i64 1, .int .i64 0, .int .i64 0, .slice a2 0 c2, .string ⟨#[]⟩, .slice (some ⟨l5, 0, none⟩) 1 c] 41)
  clear hns hown hb5 hc5 HH
  go_wp2_with fail
  go_ret

  exact ⟨rfl, HBF.out⟩

end Go.Proofs.YtageldnhchgplaaGreatDoor
