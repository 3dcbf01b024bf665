/- Contracts: msg: the writer: a snapshot, a message; Encode. -/
import Derived.BigRegion
import Derived.Deep.RegionLaw
import Derived.Deep.AppendLies
import Derived.Deep.RegionHeld3
import Derived.Deep.CutBlock
import Derived.Test.YthpljpbiamjmaaaProg
import Derived.Test.YthpljpbiamjmaaaKit
import Derived.Test.YthpljpbiamjmaaaRow
import Derived.Test.YthpljpbiamjmaaaRow2
import Derived.Test.YthpljpbiamjmaaaCod7
import Derived.Test.YthpljpbiamjmaaaFrm0
import Derived.Test.YthpljpbiamjmaaaFrm4
import Derived.Test.YthpljpbiamjmaaaFp
import Derived.Test.YthpljpbiamjmaaaNet0
import Derived.Test.YthpljpbiamjmaaaStp
import Derived.Test.YthpljpbiamjmaaaKp0
import Derived.Test.YthpljpbiamjmaaaMg0
import Derived.Test.YthpljpbiamjmaaaMg5
import Derived.Test.YthpljpbiamjmaaaMg6
import Derived.Test.YthpljpbiamjmaaaMg8
namespace Go.Proofs.Ythpljpbiamjmaaa
open Go.RowKit Go.Proofs

theorem foot_later {w : World} {g : Nat} {v v1 : Value} (hv : ∀ k, v1.ownBlock = some k → v.ownBlock = some k ∨ w.heap.size ≤ k) {k : Nat} (hk : k < w.heap.size) (h : ¬ Foot g v k) : ¬ Foot g v1 k := fun hf => h (hf.elim .inl (fun h1 => (hv k h1).elim .inr (fun h2 => by omega)))

theorem entsZ_later {w W : World} {g : Nat} {v v1 : Value} (hv : ∀ k, v1.ownBlock = some k → v.ownBlock = some k ∨ w.heap.size ≤ k) (hk : Kept (Foot g v) w W) {lv : Value} {es : List EntM} (hp : EntsZ w (fun k => ¬ Foot g v k) lv es) : EntsZ W (fun k => ¬ Foot g v1 k) lv es := by
  have h1 := entsZ_less (Z' := fun k => k < w.heap.size ∧ ¬ Foot g v k) hp (fun k h1 h2 => ⟨h1, h2⟩)
  have h2 := entsZ_keep h1 (fun k _ hz => hk.blk k hz.1 hz.2)
  exact entsZ_less h2 (fun k _ hz => foot_later hv hz.1 hz.2)

theorem intsZ_later {w W : World} {g : Nat} {v v1 : Value} (hv : ∀ k, v1.ownBlock = some k → v.ownBlock = some k ∨ w.heap.size ≤ k) (hk : Kept (Foot g v) w W) {lv : Value} {l : List Int} (hp : IntsZ w (fun k => ¬ Foot g v k) lv l) : IntsZ W (fun k => ¬ Foot g v1 k) lv l := by
  have h1 := intsZ_less (Z' := fun k => k < w.heap.size ∧ ¬ Foot g v k) hp (fun k h1 h2 => ⟨h1, h2⟩)
  have h2 := intsZ_keep h1 (fun k _ hz => hk.blk k hz.1 hz.2)
  exact intsZ_less h2 (fun k _ hz => foot_later hv hz.1 hz.2)

theorem intsZ_kept {w : World} {g : Nat} {v : Value} {lv : Value} {l : List Int} (hp : IntsZ w (fun k => ¬ Foot g v k) lv l) : ∀ w', Kept (Foot g v) w w' → IntsAt w' lv l := fun _ hk => intsZ_at (intsZ_keep hp (fun k h1 hz => hk.blk k h1 hz))

theorem mnumber_at {w W : World} {g : Nat} {v v1 : Value} {bs : List UInt8} (hv : ∀ k, v1.ownBlock = some k → v.ownBlock = some k ∨ w.heap.size ≤ k) (hk : Kept (Foot g v) w W) (h : MWrAt W g v1 bs) (sz N : Nat) (hsz : sz ≤ 8) (hN : N < 9223372036854775808) (hn : bs.length ≤ 900000000) :
    Calls Try.prog 37 #[.pointer (some ⟨g, 0, none⟩), .int .i64 sz, .int .i64 N] W fun e w' => e = .returned (.tuple #[]) ∧ MWrV w w' g v (bs ++ layS sz N) ∧ Kept (Foot g v1) W w' := by
  refine (mnumber_any h sz N hsz hN (by omega)).mono ?_
  rintro e w' ⟨rfl, hv'⟩
  refine ⟨rfl, MwrV_then hv hk hv', ?_⟩
  obtain ⟨_, _, _, hk2⟩ := hv'
  exact hk2

theorem mentries_at {w W : World} {g : Nat} {v v1 : Value} {bs : List UInt8} (hv : ∀ k, v1.ownBlock = some k → v.ownBlock = some k ∨ w.heap.size ≤ k) (hk : Kept (Foot g v) w W) (h : MWrAt W g v1 bs) {lv : Value} {es : List EntM} (hp : EntsZ w (fun k => ¬ Foot g v k) lv es) (h0 : ∀ e ∈ es, entB e = true) (hs : ∀ e ∈ es, smallE e) (hl : es.length ≤ 8) (hn : bs.length ≤ 100000000) :
    Calls Try.prog 40 #[.pointer (some ⟨g, 0, none⟩), lv] W fun e w' => e = .returned (.tuple #[]) ∧ MWrV w w' g v (bs ++ (layS 1 es.length ++ entsW es)) ∧ Kept (Foot g v1) W w' := by
  refine (mentries_any h (entsZ_later hv hk hp) h0 hs hl hn).mono ?_
  rintro e w' ⟨rfl, hv'⟩
  refine ⟨rfl, MwrV_then hv hk hv', ?_⟩
  obtain ⟨_, _, _, hk2⟩ := hv'
  exact hk2

set_option maxRecDepth 100000 in
set_option maxHeartbeats 4000000 in
theorem msnap_any {w : World} {g : Nat} {v : Value} {bs : List UInt8} (h : MWrAt w g v bs) (s : SnpM) {u : Value} (hp : IntsZ w (fun k => ¬ Foot g v k) u s.ms) (h0 : snpB s = true) (hs : smallS s) (hn : bs.length ≤ 100000000) :
    Calls Try.prog 41 #[.pointer (some ⟨g, 0, none⟩), .agg #[.int .i64 s.ix, .int .i64 s.tm, u, .string s.d]] w fun e w' => e = .returned (.tuple #[]) ∧ MWrV w w' g v (bs ++ snpW s) := by
  have hxp : natsB [s.ix, s.tm] = true ∧ s.d.size ≤ 65536 ∧ s.ms.length ≤ 9 ∧ natsB s.ms = true := by
    unfold snpB memsB at h0
    simp only [Bool.and_eq_true, decide_eq_true_eq] at h0
    exact ⟨h0.1.1, h0.1.2, h0.2.1, h0.2.2⟩
  obtain ⟨xi, xt, xm, xd⟩ := s
  dsimp only at hp hxp ⊢
  obtain ⟨ua, uc, rfl⟩ := intsAt_len (intsZ_at hp)
  have HPI := Lib.hid (intsZ_kept hp)
  obtain ⟨M, hM⟩ : ∃ M, M = xm.length := ⟨_, rfl⟩
  rw [← hM] at HPI ⊢
  obtain ⟨gE, hgE⟩ : ∃ gE, gE = w.heap.size := ⟨_, rfl⟩
  obtain ⟨wE, hwE⟩ : ∃ wE, wE = w.alloc (.cells #[.int .i64 xi, .int .i64 xt, .slice ua M uc, .string xd] 25) := ⟨_, rfl⟩
  have hbE : Below w.heap.size w wE := by rw [hwE]; exact below_more (Below.refl _ w) _
  have hrE : Rw wE 0 gE 25 [.int .i64 xi, .int .i64 xt, .slice ua M uc, .string xd] := by rw [hgE, hwE]; exact Rw.alloc w _ _ (Nat.zero_le _)
  have hne : gE ≠ g := by have := Rw.size h.1; omega
  have hdE : Below wE.heap.size wE wE.drew := below_draws (Below.refl _ _) ⟨1, rfl⟩
  have hkE : Kept (Foot g v) w wE.drew := kept_below (below_then hbE hdE)
  have hN2 : MWrAt wE.drew g v bs := MwrAt_below h (below_then hbE hdE)
  have HC1 := Lib.hid (mints_at (fun k hk => .inl hk) hkE hN2 (l := [xi, xt]) (cs := #[.int .i64 xi, .int .i64 xt]) hxp.1 hs.1 (by simp) rfl (by show _ + 8 * 2 ≤ _; omega) (b := wE.heap.size) (n := 2) (c := 2) rfl rfl)
  have c0 := Rw.cell hrE (j := 0) (v := .int .i64 xi) rfl
  have c1 := Rw.cell hrE (j := 1) (v := .int .i64 xt) rfl
  have HRE := Lib.hid (Rw.below hrE hdE)
  have HOF := Lib.hid (foot_off hN2 (Rw.below hrE hdE) (by decide) hne)
  have HNE := Lib.hid hne
  have HN := Lib.hid hn
  have HXP := Lib.hid hxp
  have HS := Lib.hid hs
  have HGE := Lib.hid hgE
  have HWE := Lib.hid hwE
  have hen1 : Enters Try.prog 38 := enters_of Try.func38 (by kernel_rfl) rfl
  have hen2 : Enters Try.prog 50 := enters_of Try.func50 (by kernel_rfl) rfl
  have hen3 : Enters Try.prog 51 := enters_of Try.func51 (by kernel_rfl) rfl
  clear h h0 hs hp hxp hM hbE hrE hne hdE hkE hN2 hn hgE hwE
  go_enter Try.func41, Try.ntmps41
  go_wp2_with fail
  rw [← HWE.out, ← HGE.out]
  go_region_law
    (first
      | (refine step_call rfl 38 _ _ rfl #[.pointer (some ⟨g, 0, none⟩), .slice (some ⟨wE.heap.size, 0, none⟩) 2 2] (by simp [go_sem]) hen1 HC1.out ?_; rintro e w2 ⟨rfl, hv2, hk2⟩; refine ⟨_, rfl, ?_⟩; have HV2 := Lib.hid hv2; have HK2 := Lib.hid hk2; clear hv2 hk2))
  all_goals
    have hr2 := rw_kept HRE.out HK2.out HOF.out
    have c3 := Rw.cell hr2 (j := 2) (v := .slice ua M uc) rfl
    obtain ⟨v2, hN2, hf2, hk2⟩ := MwrV_drew HV2.out
    have HC2 := Lib.hid (mlist_at hf2 hk2 hN2 HPI.out HXP.out.2.2.2 HS.out.2 (by rw [List.length_append, intsW_len]; have := HN.out; show _ + 8 * 2 ≤ _; omega))
    have HOF2 := Lib.hid (foot_off hN2 (rw_drew hr2) (by decide) HNE.out)
    have HR2 := Lib.hid (rw_drew hr2)
    clear hr2 hN2 hf2 hk2
    go_wp2_with fail
    go_region_law
      (first
        | (refine step_call rfl 51 _ _ rfl #[.pointer (some ⟨g, 0, none⟩), .slice ua M uc] (by simp [go_sem]) hen3 HC2.out ?_; rintro e w3 ⟨rfl, hv3, hk3⟩; refine ⟨_, rfl, ?_⟩; have HV3 := Lib.hid hv3; have HK3 := Lib.hid hk3; clear hv3 hk3))
    all_goals
      have hr3 := rw_kept HR2.out HK3.out HOF2.out
      have c4 := Rw.cell hr3 (j := 3) (v := .string xd) rfl
      obtain ⟨v3, hN3, hf3, hk3⟩ := MwrV_drew HV3.out
      have HC3 := Lib.hid (mtext_at hf3 hk3 hN3 xd (by have h1 := HN.out; have h2 := HXP.out.2.1; have h3 := HXP.out.2.2.1; unfold lstW; simp only [List.length_append, intsW_len, layS_len, List.length_cons, List.length_nil] at h1 ⊢; omega))
      clear hr3 hN3 hf3 hk3
      go_wp2_with fail
      go_region_law
        (first
          | (refine step_call rfl 50 _ _ rfl #[.pointer (some ⟨g, 0, none⟩), .string xd] (by simp [go_sem]) hen2 HC3.out ?_; rintro e w4 ⟨rfl, hv4, hk4⟩; refine ⟨_, rfl, ?_⟩; have HV4 := Lib.hid hv4; clear hv4 hk4))
      all_goals
        go_wp2_with fail
        go_end0
        refine ⟨rfl, ?_⟩
        have h9 := HV4.out
        unfold snpW
        simp only [List.append_assoc] at h9 ⊢
        exact h9

theorem yesW_len (b : Bool) : (yesW b).length = 1 := layS_len _ _

theorem msnap_at {w W : World} {g : Nat} {v v1 : Value} {bs : List UInt8} (hv : ∀ k, v1.ownBlock = some k → v.ownBlock = some k ∨ w.heap.size ≤ k) (hk : Kept (Foot g v) w W) (h : MWrAt W g v1 bs) (s : SnpM) {u : Value} (hp : IntsZ w (fun k => ¬ Foot g v k) u s.ms) (h0 : snpB s = true) (hs : smallS s) (hn : bs.length ≤ 100000000) :
    Calls Try.prog 41 #[.pointer (some ⟨g, 0, none⟩), .agg #[.int .i64 s.ix, .int .i64 s.tm, u, .string s.d]] W fun e w' => e = .returned (.tuple #[]) ∧ MWrV w w' g v (bs ++ snpW s) ∧ Kept (Foot g v1) W w' := by
  refine (msnap_any h s (intsZ_later hv hk hp) h0 hs hn).mono ?_
  rintro e w' ⟨rfl, hv'⟩
  refine ⟨rfl, MwrV_then hv hk hv', ?_⟩
  obtain ⟨_, _, _, hk2⟩ := hv'
  exact hk2

def MsSt (w : World) (g gE : Nat) (v : Value) (bs : List UInt8) (cs : List Value) (W : World) : Prop := MWrV w W g v bs ∧ Rw W 0 gE 27 cs

theorem mst_next {w W : World} {g gE : Nat} {v : Value} {bs : List UInt8} {cs : List Value} (h : MsSt w g gE v bs cs W) (hne : gE ≠ g) : ∃ v1, MWrAt W.drew g v1 bs ∧ (∀ k, v1.ownBlock = some k → v.ownBlock = some k ∨ w.heap.size ≤ k) ∧ Kept (Foot g v) w W.drew ∧ Rw W.drew 0 gE 27 cs ∧ ¬ Foot g v1 gE := by
  obtain ⟨v1, h1, h2, h3⟩ := MwrV_drew h.1
  exact ⟨v1, h1, h2, h3, rw_drew h.2, foot_off h1 (rw_drew h.2) (by decide) hne⟩

theorem mst_mk {w W w' : World} {g gE : Nat} {v v1 : Value} {bs : List UInt8} {cs : List Value} (hv : MWrV w w' g v bs) (hr : Rw W 0 gE 27 cs) (hk : Kept (Foot g v1) W w') (ho : ¬ Foot g v1 gE) : MsSt w g gE v bs cs w' := ⟨hv, rw_kept hr hk ho⟩

set_option maxRecDepth 100000 in
set_option maxHeartbeats 8000000 in
theorem mmessage_any {w : World} {g : Nat} {v : Value} {bs : List UInt8} (h : MWrAt w g v bs) (m : MsgM) {ev mv : Value} (he : EntsZ w (fun k => ¬ Foot g v k) ev m.es) (hm : IntsZ w (fun k => ¬ Foot g v k) mv m.sn.ms) (hok : okMB m = true) (hs : smallM m) (hn : bs.length ≤ 10000000) :
    Calls Try.prog 18 #[.pointer (some ⟨g, 0, none⟩), msgV m ev mv] w fun e w' => e = .returned (.tuple #[]) ∧ MWrV w w' g v (bs ++ msgW m) := by
  obtain ⟨p1, p2, p3, p4, p5, p6, _⟩ := okMB_parts hok
  have hsI : smallI [m.tm, m.ix, m.lt, m.cm] := fun n hn => hs.1 n (by simp only [List.mem_cons, List.not_mem_nil, or_false] at hn; rcases hn with rfl | rfl | rfl | rfl <;> simp)
  have hpos := fun x hx => (natsB_iff _).1 p4 x hx
  unfold msgV
  obtain ⟨ms, hms⟩ : ∃ ms, ms = msgW m := ⟨_, rfl⟩
  rw [← hms]
  have hbody : ms = layS 1 m.kd.toNat ++ intsW [m.fr, m.to, m.tm] ++ bodyW m := hms
  obtain ⟨kd, fr, tq, tm, ix, lt, cm, yes, es, sn⟩ := m
  dsimp only at he hm p1 p2 p3 p4 p5 p6 hs hsI hpos hbody ⊢
  have h5 : es.length ≤ 8 ∧ ∀ e ∈ es, entB e = true := by
    unfold entsB at p5
    simp only [Bool.and_eq_true, decide_eq_true_eq, List.all_eq_true] at p5
    exact p5
  have H5 := Lib.hid h5
  have HSE : Hid (∀ e ∈ es, smallE e) := Lib.hid hs.2.1
  have HSS : Hid (smallS sn) := Lib.hid hs.2.2
  have H6 := Lib.hid p6
  obtain ⟨K, rfl⟩ := Int.eq_ofNat_of_zero_le (show 0 ≤ kd by omega)
  have HINT : ∀ x y z : Int, x ∈ [tm, ix, lt, cm, fr, tq] → y ∈ [tm, ix, lt, cm, fr, tq] → z ∈ [tm, ix, lt, cm, fr, tq] → natsB [x, y, z] = true ∧ smallI [x, y, z] := fun x y z hx hy hz => by
    have hb : ∀ q ∈ [tm, ix, lt, cm, fr, tq], 0 ≤ q ∧ q < 9223372036854775808 := fun q hq => by
      simp only [List.mem_cons, List.not_mem_nil, or_false] at hq
      rcases hq with rfl | rfl | rfl | rfl | rfl | rfl
      · exact ⟨hpos _ (by simp), hsI _ (by simp)⟩
      · exact ⟨hpos _ (by simp), hsI _ (by simp)⟩
      · exact ⟨hpos _ (by simp), hsI _ (by simp)⟩
      · exact ⟨hpos _ (by simp), hsI _ (by simp)⟩
      · omega
      · omega
    exact ⟨(natsB_iff _).2 fun q hq => by
      simp only [List.mem_cons, List.not_mem_nil, or_false] at hq
      rcases hq with rfl | rfl | rfl
      · exact (hb _ hx).1
      · exact (hb _ hy).1
      · exact (hb _ hz).1, small3 (hb _ hx).2 (hb _ hy).2 (hb _ hz).2⟩
  have G1 := Lib.hid (HINT fr tq tm (by simp) (by simp) (by simp))
  have G2 := Lib.hid (HINT ix lt cm (by simp) (by simp) (by simp))
  have G3 : Hid (natsB [ix, lt] = true ∧ smallI [ix, lt]) := Lib.hid ⟨(natsB_iff _).2 fun q hq => (natsB_iff _).1 G2.out.1 q (by simp only [List.mem_cons, List.not_mem_nil, or_false] at hq ⊢; rcases hq with rfl | rfl <;> simp), fun q hq => G2.out.2 q (by simp only [List.mem_cons, List.not_mem_nil, or_false] at hq ⊢; rcases hq with rfl | rfl <;> simp)⟩
  have G4 : Hid (natsB [ix] = true ∧ smallI [ix]) := Lib.hid ⟨(natsB_iff _).2 fun q hq => (natsB_iff _).1 G2.out.1 q (by simp only [List.mem_cons, List.not_mem_nil, or_false] at hq ⊢; subst hq; simp), fun q hq => G2.out.2 q (by simp only [List.mem_cons, List.not_mem_nil, or_false] at hq ⊢; subst hq; simp)⟩
  obtain ⟨a, c, rfl, _⟩ := id he
  obtain ⟨a2, c2, rfl⟩ := intsAt_len (intsZ_at hm)
  have HE := Lib.hid he
  have HM := Lib.hid hm
  have HB := Lib.hid hbody
  obtain ⟨si, st, sm, sd⟩ := sn
  dsimp only at hm HM H6 HSS ⊢
  obtain ⟨n, hnn⟩ : ∃ n, n = es.length := ⟨_, rfl⟩
  obtain ⟨M, hM⟩ : ∃ M, M = sm.length := ⟨_, rfl⟩
  rw [← hnn] at HE ⊢
  rw [← hM] at HM ⊢
  have HNN := Lib.hid hnn
  obtain ⟨gE, hgE⟩ : ∃ gE, gE = w.heap.size := ⟨_, rfl⟩
  obtain ⟨wE, hwE⟩ : ∃ wE, wE = w.alloc (.cells #[.int .i64 K, .int .i64 fr, .int .i64 tq, .int .i64 tm, .int .i64 ix, .int .i64 lt, .int .i64 cm, .bool yes, .slice a n c, .int .i64 si, .int .i64 st, .slice a2 M c2, .string sd] 27) := ⟨_, rfl⟩
  have hbE : Below w.heap.size w wE := by rw [hwE]; exact below_more (Below.refl _ w) _
  have hrE : Rw wE 0 gE 27 [.int .i64 K, .int .i64 fr, .int .i64 tq, .int .i64 tm, .int .i64 ix, .int .i64 lt, .int .i64 cm, .bool yes, .slice a n c, .int .i64 si, .int .i64 st, .slice a2 M c2, .string sd] := by rw [hgE, hwE]; exact Rw.alloc w _ _ (Nat.zero_le _)
  have hne : gE ≠ g := by have := Rw.size h.1; omega
  have hdE : Below wE.heap.size wE wE.drew := below_draws (Below.refl _ _) ⟨1, rfl⟩
  have hkE : Kept (Foot g v) w wE.drew := kept_below (below_then hbE hdE)
  have hN2 : MWrAt wE.drew g v bs := MwrAt_below h (below_then hbE hdE)
  have HC := Lib.hid (mnumber_at (fun k hk => .inl hk) hkE hN2 1 K (by decide) (by omega) (by omega))
  have c0 := Rw.cell hrE (j := 0) (v := .int .i64 K) rfl
  have HR1 := Lib.hid (rw_drew hrE)
  have HO1 := Lib.hid (foot_off hN2 (rw_drew hrE) (by decide) hne)
  have HNE := Lib.hid hne
  have HN := Lib.hid hn
  have HGE := Lib.hid hgE
  have HWE := Lib.hid hwE
  have hk5 : K = 1 ∨ K = 2 ∨ K = 3 ∨ K = 4 ∨ K = 5 := by omega
  have en1 : Enters Try.prog 37 := enters_of Try.func37 (by kernel_rfl) rfl
  have en2 : Enters Try.prog 38 := enters_of Try.func38 (by kernel_rfl) rfl
  have en3 : Enters Try.prog 39 := enters_of Try.func39 (by kernel_rfl) rfl
  have en4 : Enters Try.prog 40 := enters_of Try.func40 (by kernel_rfl) rfl
  have en5 : Enters Try.prog 41 := enters_of Try.func41 (by kernel_rfl) rfl
  clear h hs he hm hok hms hbody hnn hM hbE hrE hne hdE hkE hN2 hn hgE hwE p1 p2 p3 p4 p5 p6 hsI hpos h5 HINT
  go_enter Try.func18, Try.ntmps18
  go_upto_region 1 with fail
  rw [← HWE.out, ← HGE.out]
  go_cut [9] from 4 (fun c9 wx => c9 = .tuple #[] ∧ Hid (MsSt w g gE v (bs ++ layS 1 K) [.int .i64 K, .int .i64 fr, .int .i64 tq, .int .i64 tm, .int .i64 ix, .int .i64 lt, .int .i64 cm, .bool yes, .slice a n c, .int .i64 si, .int .i64 st, .slice a2 M c2, .string sd] wx))
  case first =>
    go_region_law
      (first
        | (refine step_call rfl 37 _ _ rfl #[.pointer (some ⟨g, 0, none⟩), .int .i64 1, .int .i64 K] (by simp [go_sem]) en1 HC.out ?_; rintro e wy ⟨rfl, hvy, hky⟩; refine ⟨_, rfl, ?_⟩; have HY := Lib.hid (mst_mk hvy HR1.out hky HO1.out); clear hvy hky))
    all_goals
      go_wp2_with fail
      go_meet
      exact ⟨rfl, HY⟩
  case rest =>
    obtain ⟨rfl, HZ⟩ := hcut
    clear HC HR1 HO1 c0
    generalize wc = w2 at *
    go_upto_region 2 with fail
    obtain ⟨v1, hN1, hf1, hk1, hr1, ho1⟩ := mst_next HZ.out HNE.out
    have x1 := Rw.cell HZ.out.2 (j := 1) (v := .int .i64 fr) rfl
    have x2 := Rw.cell HZ.out.2 (j := 2) (v := .int .i64 tq) rfl
    have x3 := Rw.cell HZ.out.2 (j := 3) (v := .int .i64 tm) rfl
    have HC := Lib.hid (mints_at hf1 hk1 hN1 (l := [fr, tq, tm]) (cs := #[.int .i64 fr, .int .i64 tq, .int .i64 tm]) G1.out.1 G1.out.2 (by simp) rfl (by have h1 := HN.out; simp only [List.length_append, layS_len, List.length_cons, List.length_nil] at h1 ⊢; omega) (b := w2.heap.size) (n := 3) (c := 3) rfl rfl)
    have HR1 := Lib.hid hr1
    have HO1 := Lib.hid ho1
    clear hN1 hf1 hk1 hr1 ho1
    go_cut [20] from 4 (fun c20 wx => c20 = .tuple #[] ∧ Hid (MsSt w g gE v (bs ++ layS 1 K ++ intsW [fr, tq, tm]) [.int .i64 K, .int .i64 fr, .int .i64 tq, .int .i64 tm, .int .i64 ix, .int .i64 lt, .int .i64 cm, .bool yes, .slice a n c, .int .i64 si, .int .i64 st, .slice a2 M c2, .string sd] wx))
    case first =>
      go_region_law
        (first
          | (refine step_call rfl 38 _ _ rfl #[.pointer (some ⟨g, 0, none⟩), .slice (some ⟨w2.heap.size, 0, none⟩) 3 3] (by simp [go_sem]) en2 HC.out ?_; rintro e wy ⟨rfl, hvy, hky⟩; refine ⟨_, rfl, ?_⟩; have HY := Lib.hid (mst_mk hvy HR1.out hky HO1.out); clear hvy hky))
      all_goals
        go_wp2_with fail
        go_meet
        exact ⟨rfl, HY⟩
    case rest =>
      obtain ⟨rfl, HZ2⟩ := hcut
      clear HC HR1 HO1 x1 x2 x3 HZ
      generalize wc = w3 at *
      rcases hk5 with hk5 | hk5 | hk5 | hk5 | hk5
      · have q1 : ((K : Int) == 1) = true := by rw [beq_iff_eq]; omega
        obtain ⟨v1, hN1, hf1, hk1, hr1, ho1⟩ := mst_next HZ2.out HNE.out
        have x0 := Rw.cell HZ2.out.2 (j := 0) (v := .int .i64 K) rfl
        have x4 := Rw.cell HZ2.out.2 (j := 4) (v := .int .i64 ix) rfl
        have x5 := Rw.cell HZ2.out.2 (j := 5) (v := .int .i64 lt) rfl
        have x6 := Rw.cell HZ2.out.2 (j := 6) (v := .int .i64 cm) rfl
        have HC := Lib.hid (mints_at hf1 hk1 hN1 (l := [ix, lt]) (cs := #[.int .i64 ix, .int .i64 lt]) G3.out.1 G3.out.2 (by simp) rfl (by have h1 := HN.out; simp only [List.length_append, layS_len, List.length_cons, List.length_nil, intsW_len] at h1 ⊢; omega) (b := w3.heap.size) (n := 2) (c := 2) rfl rfl)
        have HR1 := Lib.hid hr1
        have HO1 := Lib.hid ho1
        clear hN1 hf1 hk1 hr1 ho1
        clear hk5
        go_wp2_with fail
        go_region_law
          (first
            | (refine step_call rfl 38 _ _ rfl #[.pointer (some ⟨g, 0, none⟩), .slice (some ⟨w3.heap.size, 0, none⟩) 2 2] (by simp [go_sem]) en2 HC.out ?_; rintro e wy ⟨rfl, hvy, hky⟩; refine ⟨_, rfl, ?_⟩; have HY := Lib.hid (mst_mk hvy HR1.out hky HO1.out); clear hvy hky))
        all_goals
          have hk5 : (K : Int) = 1 := by rw [← beq_iff_eq]; exact q1
          go_wp2_with fail
          go_end0
          refine ⟨rfl, ?_⟩
          have h9 := HY.out.1
          rw [HB.out]
          unfold bodyW
          dsimp only
          rw [if_pos (by omega), Int.toNat_natCast]
          simp only [List.append_assoc] at h9 ⊢
          exact h9
      · have q1 : ((K : Int) == 1) = false := by rw [beq_eq_false_iff_ne]; omega
        have q2 : ((K : Int) == 2) = true := by rw [beq_iff_eq]; omega
        obtain ⟨v1, hN1, hf1, hk1, hr1, ho1⟩ := mst_next HZ2.out HNE.out
        have x0 := Rw.cell HZ2.out.2 (j := 0) (v := .int .i64 K) rfl
        have x7 := Rw.cell HZ2.out.2 (j := 7) (v := .bool yes) rfl
        have HC := Lib.hid (myes_at hf1 hk1 hN1 yes (by have h1 := HN.out; simp only [List.length_append, layS_len, List.length_cons, List.length_nil, intsW_len] at h1 ⊢; omega))
        have HR1 := Lib.hid hr1
        have HO1 := Lib.hid ho1
        clear hN1 hf1 hk1 hr1 ho1
        clear hk5
        go_wp2_with fail
        go_region_law
          (first
            | (refine step_call rfl 39 _ _ rfl #[.pointer (some ⟨g, 0, none⟩), .bool yes] (by simp [go_sem]) en3 HC.out ?_; rintro e wy ⟨rfl, hvy, hky⟩; refine ⟨_, rfl, ?_⟩; have HY := Lib.hid (mst_mk hvy HR1.out hky HO1.out); clear hvy hky))
        all_goals
          have hk5 : (K : Int) = 2 := by rw [← beq_iff_eq]; exact q2
          go_wp2_with fail
          go_end0
          refine ⟨rfl, ?_⟩
          have h9 := HY.out.1
          rw [HB.out]
          unfold bodyW
          dsimp only
          rw [if_neg (by omega), if_pos (by omega), Int.toNat_natCast]
          simp only [List.append_assoc] at h9 ⊢
          exact h9
      · have q1 : ((K : Int) == 1) = false := by rw [beq_eq_false_iff_ne]; omega
        have q2 : ((K : Int) == 2) = false := by rw [beq_eq_false_iff_ne]; omega
        have q3 : ((K : Int) == 3) = true := by rw [beq_iff_eq]; omega
        obtain ⟨v1, hN1, hf1, hk1, hr1, ho1⟩ := mst_next HZ2.out HNE.out
        have x0 := Rw.cell HZ2.out.2 (j := 0) (v := .int .i64 K) rfl
        have x4 := Rw.cell HZ2.out.2 (j := 4) (v := .int .i64 ix) rfl
        have x5 := Rw.cell HZ2.out.2 (j := 5) (v := .int .i64 lt) rfl
        have x6 := Rw.cell HZ2.out.2 (j := 6) (v := .int .i64 cm) rfl
        have HC := Lib.hid (mints_at hf1 hk1 hN1 (l := [ix, lt, cm]) (cs := #[.int .i64 ix, .int .i64 lt, .int .i64 cm]) G2.out.1 G2.out.2 (by simp) rfl (by have h1 := HN.out; simp only [List.length_append, layS_len, List.length_cons, List.length_nil, intsW_len] at h1 ⊢; omega) (b := w3.heap.size) (n := 3) (c := 3) rfl rfl)
        have HR1 := Lib.hid hr1
        have HO1 := Lib.hid ho1
        clear hN1 hf1 hk1 hr1 ho1
        clear hk5
        go_wp2_with fail
        go_region_law
          (first
            | (refine step_call rfl 38 _ _ rfl #[.pointer (some ⟨g, 0, none⟩), .slice (some ⟨w3.heap.size, 0, none⟩) 3 3] (by simp [go_sem]) en2 HC.out ?_; rintro e wy ⟨rfl, hvy, hky⟩; refine ⟨_, rfl, ?_⟩; have HY := Lib.hid (mst_mk hvy HR1.out hky HO1.out); clear hvy hky))
        all_goals
          obtain ⟨hvy, hry⟩ := HY.out
          obtain ⟨vy, hNy, hfy, hky⟩ := hvy
          have x8 := Rw.cell hry (j := 8) (v := .slice a n c) rfl
          have HC4 := Lib.hid (mentries_at hfy hky hNy HE.out H5.out.2 HSE.out H5.out.1 (by have h1 := HN.out; simp only [List.length_append, layS_len, List.length_cons, List.length_nil, intsW_len] at h1 ⊢; omega))
          rw [← HNN.out] at HC4
          clear hry hNy hfy hky
          go_wp2_with fail
          refine (HC4.out).mono ?_
          rintro e w5 ⟨rfl, hv5, _⟩
          have HV5 := Lib.hid hv5
          clear hv5
          have hk5 : (K : Int) = 3 := by rw [← beq_iff_eq]; exact q3
          go_wp2_with fail
          go_end0
          refine ⟨rfl, ?_⟩
          have h9 := HV5.out
          rw [HB.out]
          unfold bodyW
          dsimp only
          rw [if_neg (by omega), if_neg (by omega), if_pos (by omega), Int.toNat_natCast, ← HNN.out]
          simp only [List.append_assoc] at h9 ⊢
          exact h9
      · have q1 : ((K : Int) == 1) = false := by rw [beq_eq_false_iff_ne]; omega
        have q2 : ((K : Int) == 2) = false := by rw [beq_eq_false_iff_ne]; omega
        have q3 : ((K : Int) == 3) = false := by rw [beq_eq_false_iff_ne]; omega
        have q4 : ((K : Int) == 4) = true := by rw [beq_iff_eq]; omega
        obtain ⟨v1, hN1, hf1, hk1, hr1, ho1⟩ := mst_next HZ2.out HNE.out
        have x0 := Rw.cell HZ2.out.2 (j := 0) (v := .int .i64 K) rfl
        have x7 := Rw.cell HZ2.out.2 (j := 7) (v := .bool yes) rfl
        have HC := Lib.hid (myes_at hf1 hk1 hN1 yes (by have h1 := HN.out; simp only [List.length_append, layS_len, List.length_cons, List.length_nil, intsW_len] at h1 ⊢; omega))
        have HR1 := Lib.hid hr1
        have HO1 := Lib.hid ho1
        clear hN1 hf1 hk1 hr1 ho1
        clear hk5
        go_wp2_with fail
        go_region_law
          (first
            | (refine step_call rfl 39 _ _ rfl #[.pointer (some ⟨g, 0, none⟩), .bool yes] (by simp [go_sem]) en3 HC.out ?_; rintro e wy ⟨rfl, hvy, hky⟩; refine ⟨_, rfl, ?_⟩; have HY := Lib.hid (mst_mk hvy HR1.out hky HO1.out); clear hvy hky))
        all_goals
          have HY0 := HY
          clear HC HR1 HO1 x0 x7 HY
          obtain ⟨v1, hN1, hf1, hk1, hr1, ho1⟩ := mst_next HY0.out HNE.out
          have x4 := Rw.cell HY0.out.2 (j := 4) (v := .int .i64 ix) rfl
          have HC := Lib.hid (mints_at hf1 hk1 hN1 (l := [ix]) (cs := #[.int .i64 ix]) G4.out.1 G4.out.2 (by simp) rfl (by have h1 := HN.out; simp only [List.length_append, layS_len, List.length_cons, List.length_nil, intsW_len, yesW_len] at h1 ⊢; omega) (b := wy.heap.size) (n := 1) (c := 1) rfl rfl)
          have HR1 := Lib.hid hr1
          have HO1 := Lib.hid ho1
          clear hN1 hf1 hk1 hr1 ho1
          go_wp2_with fail
          go_region_law
            (first
              | (refine step_call rfl 38 _ _ rfl #[.pointer (some ⟨g, 0, none⟩), .slice (some ⟨wy.heap.size, 0, none⟩) 1 1] (by simp [go_sem]) en2 HC.out ?_; rintro e wz ⟨rfl, hvy, hky⟩; refine ⟨_, rfl, ?_⟩; have HY2 := Lib.hid (mst_mk hvy HR1.out hky HO1.out); clear hvy hky))
          all_goals
            have hk5 : (K : Int) = 4 := by rw [← beq_iff_eq]; exact q4
            go_wp2_with fail
            go_end0
            refine ⟨rfl, ?_⟩
            have h9 := HY2.out.1
            rw [HB.out]
            unfold bodyW
            dsimp only
            rw [if_neg (by omega), if_neg (by omega), if_neg (by omega), if_pos (by omega), Int.toNat_natCast]
            simp only [List.append_assoc] at h9 ⊢
            exact h9
      · have q1 : ((K : Int) == 1) = false := by rw [beq_eq_false_iff_ne]; omega
        have q2 : ((K : Int) == 2) = false := by rw [beq_eq_false_iff_ne]; omega
        have q3 : ((K : Int) == 3) = false := by rw [beq_eq_false_iff_ne]; omega
        have q4 : ((K : Int) == 4) = false := by rw [beq_eq_false_iff_ne]; omega
        have q5 : ((K : Int) == 5) = true := by rw [beq_iff_eq]; omega
        obtain ⟨hvy, hry⟩ := HZ2.out
        obtain ⟨vy, hNy, hfy, hky⟩ := hvy
        have x0 := Rw.cell hry (j := 0) (v := .int .i64 K) rfl
        have x9 := Rw.cell hry (j := 9) (v := .int .i64 si) rfl
        have x10 := Rw.cell hry (j := 10) (v := .int .i64 st) rfl
        have x11 := Rw.cell hry (j := 11) (v := .slice a2 M c2) rfl
        have x12 := Rw.cell hry (j := 12) (v := .string sd) rfl
        have HC4 := Lib.hid (msnap_at hfy hky hNy ⟨si, st, sm, sd⟩ (u := .slice a2 M c2) HM.out H6.out HSS.out (by have h1 := HN.out; simp only [List.length_append, layS_len, List.length_cons, List.length_nil, intsW_len] at h1 ⊢; omega))
        dsimp only at HC4
        clear hry hNy hfy hky hk5
        go_wp2_with fail
        refine (HC4.out).mono ?_
        rintro e w5 ⟨rfl, hv5, _⟩
        have HV5 := Lib.hid hv5
        clear hv5
        have hk5 : (K : Int) = 5 := by rw [← beq_iff_eq]; exact q5
        go_wp2_with fail
        go_end0
        refine ⟨rfl, ?_⟩
        have h9 := HV5.out
        rw [HB.out]
        unfold bodyW
        dsimp only
        rw [if_neg (by omega), if_neg (by omega), if_neg (by omega), if_neg (by omega), if_pos (by omega), Int.toNat_natCast]
        simp only [List.append_assoc] at h9 ⊢
        exact h9

end Go.Proofs.Ythpljpbiamjmaaa
