/- Contracts: the reference disk's Truncate. -/
import Derived.BigRegion
import Derived.BigQuiet
import Derived.Deep.RegionHeld3
import Derived.Deep.RegionLaw
import Derived.Test.YtfiocghgjjandaaProg
import Derived.Test.YtfiocghgjjandaaKit
import Derived.Test.YtfiocghgjjandaaRow
import Derived.Test.YtfiocghgjjandaaRow2
import Derived.Test.YtfiocghgjjandaaCod5
import Derived.Test.YtfiocghgjjandaaCod7
import Derived.Test.YtfiocghgjjandaaJoin
import Derived.Test.YtfiocghgjjandaaFrm4
import Derived.Test.YtfiocghgjjandaaFp
import Derived.Test.YtfiocghgjjandaaRdk0
import Derived.Test.YtfiocghgjjandaaDsk0
import Derived.Test.YtfiocghgjjandaaDsk1
import Derived.Test.YtfiocghgjjandaaDsk6
import Derived.Test.YtfiocghgjjandaaDsk7
import Derived.Test.YtfiocghgjjandaaDsk8
import Derived.Test.YtfiocghgjjandaaDsk9
import Derived.Test.YtfiocghgjjandaaDsk17
import Derived.Test.YtfiocghgjjandaaNet0
import Derived.Test.YtfiocghgjjandaaRfd0
import Derived.Test.YtfiocghgjjandaaRfd3
import Derived.Test.YtfiocghgjjandaaRfd4
namespace Go.Proofs.Ytfiocghgjjandaa
open Go.RowKit Go.Proofs

theorem byteZ_cut {w : World} {Z : Nat → Prop} {a : Option Addr} {n c : Nat} {l : List UInt8} (h : ByteZ w Z (.slice a n c) l) {m : Nat} (hm : m ≤ n) : ByteZ w Z (.slice a m c) (l.take m) := by
  rcases h with ⟨e, rfl⟩ | ⟨ad, c2, e, hc, hl⟩
  · injection e with e1 e2 e3
    subst e1 e2 e3
    have : m = 0 := by omega
    subst this
    exact .inl ⟨rfl, rfl⟩
  · injection e with e1 e2 e3
    subst e1 e2 e3
    have hlen : (l.take m).length = m := by rw [List.length_take]; omega
    refine .inr ⟨ad, c, by rw [hlen], by rw [hlen]; omega, ?_⟩
    rcases hl with rfl | ⟨b, o, rfl, hz, hat⟩
    · exact .inl (by simp)
    · refine .inr ⟨b, o, rfl, hz, fun j x hj => ?_⟩
      rw [List.getElem?_take] at hj
      split at hj
      · exact hat j x hj
      · cases hj

theorem byteZ_len {w : World} {Z : Nat → Prop} {a : Option Addr} {n c : Nat} {l : List UInt8} (h : ByteZ w Z (.slice a n c) l) : n ≤ c := by
  rcases h with ⟨e, rfl⟩ | ⟨ad, c2, e, hc, hl⟩
  · injection e with e1 e2 e3
    omega
  · injection e with e1 e2 e3
    omega

set_option maxRecDepth 100000 in
set_option maxHeartbeats 8000000 in
/-- Truncate. -/
theorem rtruncate_any {w : World} {Y : Nat → Prop} {h : Nat} {C : CodM} (H : RTw w Y h C) (hok : COk C) (hops : C.ops < 1000000) (s : ByteArray) (z : Int) (hzb : -9223372036854775808 ≤ z ∧ z ≤ 9223372036854775807) :
    Calls Try.prog 20 #[.pointer (some ⟨h, 0, none⟩), .string s, .int .i64 z] w fun e w' => e = .returned (.int .i64 (truM C s.data.toList z).1) ∧ RTwV w w' Y h (truM C s.data.toList z).2 := by
  obtain ⟨D, T, L, rs, X, R0⟩ := H
  obtain ⟨hgo, T1⟩ := twin_tick T (by omega)
  have hfs := R0.fs
  have hrl : rs.length ≤ 64 := by have := hok.len; rw [← T.fs, ← hfs, List.length_map] at this; exact this
  have hyh := R0.yh
  have HO := Lib.hid (roff_any R0 (by have := T.n; omega))
  obtain ⟨R, hR⟩ : ∃ R, R = truM C s.data.toList z := ⟨_, rfl⟩
  rw [← hR]
  obtain ⟨bo, hbo⟩ : ∃ bo, bo = offM D := ⟨_, rfl⟩
  rw [← hbo] at HO
  cases bo
  case true =>
    have HR : Hid (R = (6, tickM C)) := Lib.hid (by rw [hR]; unfold truM; rw [if_pos (by rw [hgo, ← hbo]; rfl)])
    clear hrl hfs hbo hgo hR
    go_enter Try.func20, Try.ntmps20
    go_wp2_with fail
    refine HO.out.mono ?_
    rintro e w1 ⟨rfl, H1, K1⟩
    go_wp2
    go_ret
    rw [HR.out]
    exact ⟨rfl, rtwV_same T1 H1 K1⟩
  case false =>
    have hgoes : goesM C = true := by rw [hgo, ← hbo]; rfl
    have HRR : Hid (R = match findM C.fs s.data.toList with
      | none => (4, tickM C)
      | some f => if z < 0 ∨ (f.b.length : Int) < z then (1, tickM C) else (0, withM (tickM C) (setM s.data.toList (fun _ => ⟨s.data.toList, f.b.take z.toNat, min f.syn z.toNat⟩) C.fs))) := Lib.hid (by rw [hR]; unfold truM; rw [if_neg (by rw [hgoes]; decide)]; cases findM C.fs s.data.toList <;> rfl)
    obtain ⟨pm, hpm⟩ : ∃ pm, pm = posM D.fs s.data.toList := ⟨_, rfl⟩
    have HF : Hid (∀ (W : World), RefR W Y h D.op L rs X → Calls Try.prog 46 #[.pointer (some ⟨h, 0, none⟩), .string s] W fun e w' => e = .returned (.int .i64 (posO pm)) ∧ w' = W) := Lib.hid (fun W H1 => by
      have := rfind_any H1 s (by omega)
      rw [posI_o, show D.op.fs = D.fs from rfl, ← hpm] at this
      exact this)
    have HT1 := Lib.hid T1
    have HSO : Hid (SortM D.fs) := Lib.hid (by rw [T.fs]; exact hok.sort)
    have HTF := Lib.hid T.fs
    have HFS := Lib.hid hfs
    have HPM := Lib.hid hpm
    have HSY : Hid (∀ f ∈ D.fs, f.syn ≤ f.b.length ∧ f.b.length ≤ 4194304) := Lib.hid (fun f hf => by
      rw [T.fs] at hf
      have h1 := hok.syn f hf
      have h2 := sizeM_mem hf
      have := hok.size
      have := hok.room
      exact ⟨h1, by omega⟩)
    cases pm with
    | none =>
      have HR : Hid (R = (4, tickM C)) := Lib.hid (by rw [HRR.out, ← HTF.out, pos_nofind HPM.out.symm])
      have hp1 : posO none = -1 := rfl
      rw [hp1] at HF
      clear hbo hgo hgoes hR hfs hrl T T1 hok hpm R0 hp1
      go_enter Try.func20, Try.ntmps20
      go_wp2_with fail
      refine HO.out.mono ?_
      rintro e w1 ⟨rfl, H1, K1⟩
      have HT := Lib.hid (rtwV_same HT1.out H1 K1)
      have HF1 := Lib.hid (HF.out w1 H1)
      clear H1 K1
      go_wp2_with fail
      refine (HF1.out).mono ?_
      rintro e w2 ⟨rfl, rfl⟩
      go_wp2
      go_ret
      rw [HR.out]
      exact ⟨rfl, HT.out⟩
    | some k =>
      obtain ⟨f, hf, hff, hfn⟩ := pos_find hpm.symm
      obtain ⟨r, hr, hrf⟩ : ∃ r, rs[k]? = some r ∧ r.f = f := by
        rw [← hfs, List.getElem?_map] at hf
        obtain ⟨r, hr, e⟩ := Option.map_eq_some_iff.1 hf
        exact ⟨r, hr, e⟩
      subst hrf
      have hkl := (List.getElem?_eq_some_iff.1 hr).1
      obtain ⟨hsyn, hblen⟩ := HSY.out r.f (List.mem_of_getElem? hf)
      obtain ⟨q, hq⟩ : ∃ q, q = r.f.b.length := ⟨_, rfl⟩
      obtain ⟨y, hy⟩ : ∃ y, y = r.f.syn := ⟨_, rfl⟩
      have HR2 : Hid (R = if z < 0 ∨ (q : Int) < z then (1, tickM C) else (0, withM (tickM C) (setM s.data.toList (fun _ => ⟨s.data.toList, r.f.b.take z.toNat, min y z.toNat⟩) C.fs))) := Lib.hid (by rw [HRR.out, ← HTF.out, hff, hq, hy])
      obtain ⟨la, lc, hLL, hla, _⟩ := own_addr R0.own
      subst hLL
      obtain ⟨gl, rfl⟩ := hla.resolve_left (by omega)
      obtain ⟨n, hn⟩ : ∃ n, n = rs.length := ⟨_, rfl⟩
      obtain ⟨ua, uc, hu⟩ : ∃ ua uc, r.u = .slice ua r.f.b.length uc := by
        rcases R0.bys r (List.mem_of_getElem? hr) with ⟨e, e2⟩ | ⟨ad, c, e, _⟩
        · exact ⟨none, 0, by rw [e, e2]; rfl⟩
        · exact ⟨_, _, e⟩
      rw [← hq] at hu
      have hp1 : posO (some k) = (k : Int) := rfl
      rw [hp1] at HF
      have HN := Lib.hid hn
      have HRK := Lib.hid hr
      have HU := Lib.hid hu
      have HQ := Lib.hid hq
      have HY := Lib.hid hy
      have HFN := Lib.hid hfn
      have hk0 : decide ((k : Int) < 0) = false := decide_eq_false (by omega)
      have hkn0 : ¬ (k : Int) < 0 := by omega
      have hkn : (k : Int) < (n : Int) := by omega
      have hn64 : (n : Int) ≤ 64 := by omega
      have hqb : (q : Int) ≤ 4194304 := by omega
      have hyq : (y : Int) ≤ (q : Int) := by omega
      clear hbo hgo hgoes hR hfs hrl T T1 hok hpm R0 hp1 hf hff hfn hr hkl hsyn hblen hq hy hla hu
      go_enter Try.func20, Try.ntmps20
      go_wp2_with fail
      refine HO.out.mono ?_
      rintro e w1 ⟨rfl, H1, K1⟩
      have HH1 := Lib.hid H1
      have HK1 := Lib.hid K1
      have HF1 := Lib.hid (HF.out w1 H1)
      clear H1 K1
      have c1 : w1.cell? ⟨h, 1, none⟩ = some (.slice (some ⟨gl, 0, none⟩) n lc) := by rw [HN.out]; exact Rw.cell HH1.out.rwd rfl
      have cu := rec_cells (j := 1) HH1.out.own HRK.out rfl
      have c2 := rec_cells (j := 2) HH1.out.own HRK.out rfl
      rw [HU.out] at cu
      rw [← HY.out] at c2
      go_wp2_with fail
      refine (HF1.out).mono ?_
      rintro e w2 ⟨rfl, rfl⟩
      clear HF1
      by_cases h0 : z < 0
      · have HR : Hid (R = (1, tickM C)) := Lib.hid (by rw [HR2.out, if_pos (.inl h0)])
        clear HR2
        go_wp2
        go_ret
        rw [HR.out]
        exact ⟨rfl, rtwV_same HT1.out HH1.out HK1.out⟩
      · by_cases h1 : (q : Int) < z
        · have HR : Hid (R = (1, tickM C)) := Lib.hid (by rw [HR2.out, if_pos (.inr h1)])
          clear HR2
          go_wp2
          go_ret
          rw [HR.out]
          exact ⟨rfl, rtwV_same HT1.out HH1.out HK1.out⟩
        · obtain ⟨m, rfl⟩ : ∃ m : Nat, z = (m : Int) := ⟨z.toNat, by omega⟩
          have HR : Hid (R = (0, withM (tickM C) (setM s.data.toList (fun _ => ⟨s.data.toList, r.f.b.take m, min y m⟩) C.fs))) := Lib.hid (by rw [HR2.out, if_neg (by omega), Int.toNat_natCast])
          have hmq : m ≤ q := by omega
          have hby := HH1.out.bys r (List.mem_of_getElem? HRK.out)
          rw [HU.out] at hby
          have hquc := byteZ_len hby
          have hs1 : ∀ W, (Instr.slice 40 (.slice ua q uc) none (some (.int .i64 (m : Int))) none).run Try.prog W = .ok (.slice ua m uc) W := fun W => by
            rw [run_slice_h W 40 ua q uc (by kernel_rfl) .i64 m (by omega) (by omega), run_size1 (by kernel_rfl)]
            rcases ua with _ | ⟨b, o, _ | e⟩ <;> simp [Result.andThen, sliced, Addr.add]
          have hno := HH1.out.own
          have P1 := refR_put1 HH1.out rfl HRK.out (j := 1) (by decide) (.slice ua m uc) ⟨⟨s.data.toList, r.f.b.take m, y⟩, .slice ua m uc⟩ (by rw [← HFN.out, HY.out]; rfl) (byteZ_cut hby hmq) _ rfl
          have hr2 : (rs.set k ⟨⟨s.data.toList, r.f.b.take m, y⟩, .slice ua m uc⟩)[k]? = some ⟨⟨s.data.toList, r.f.b.take m, y⟩, .slice ua m uc⟩ := by
            rw [List.getElem?_set_self (List.getElem?_eq_some_iff.1 HRK.out).1]
          have P1d := refR_below P1.1 (below_draws (Below.refl _ _) ⟨1, rfl⟩)
          have hb2 := P1d.bys _ (List.mem_of_getElem? hr2)
          obtain ⟨y2, hy2⟩ : ∃ y2, y2 = min y m := ⟨_, rfl⟩
          have hmin : min (y : Int) (m : Int) = (y2 : Int) := by omega
          have P2 := refR_put1 P1d (by rw [List.length_set]) hr2 (j := 2) (by decide) (.int .i64 y2) ⟨⟨s.data.toList, r.f.b.take m, y2⟩, .slice ua m uc⟩ rfl hb2 (setM s.data.toList (fun _ => ⟨s.data.toList, r.f.b.take m, y2⟩) C.fs) (by
            rw [List.set_set, List.map_set, HFS.out, ← HTF.out]
            exact set_set _ HSO.out HPM.out.symm)
          have f1 : w2.frozen? ⟨gl, k * 3 + 1, none⟩ = false := hno.frozenAt _
          have hne : h ≠ gl := fun e => refR_lh HH1.out (by rw [e]; rfl)
          obtain ⟨w3, hw3⟩ : ∃ w3, w3 = w2.setCell ⟨gl, k * 3 + 1, none⟩ (.slice ua m uc) := ⟨_, rfl⟩
          rw [← hw3] at P1 P1d P2
          have d1 : w3.cell? ⟨h, 1, none⟩ = some (.slice (some ⟨gl, 0, none⟩) n lc) := by rw [HN.out]; exact Rw.cell P1.1.rwd rfl
          have d2 : w3.cell? ⟨gl, k * 3 + 2, none⟩ = some (.int .i64 y) := rec_cells (j := 2) (by have := P1.1.own; rw [List.length_set] at this ⊢; exact this) hr2 rfl
          have f2 : w3.frozen? ⟨gl, k * 3 + 2, none⟩ = false := by
            have o1 := P1.1.own
            rw [List.length_set] at o1
            exact o1.frozenAt _
          have HP2 := Lib.hid P2
          have HKP : Hid (Kept Y w w3.drew) := Lib.hid (kept_draw (kept_trans (kept_mono HK1.out (fun k e => by subst e; exact .inl hyh)) (kept_mono P1.2 (fun k e => by subst e; exact .inl (HH1.out.yl _ rfl)))) ⟨1, rfl⟩)
          have HW3 : Hid (w2.setCell ⟨gl, k * 3 + 1, none⟩ (.slice ua m uc) = w3) := Lib.hid hw3.symm
          have HY2 := Lib.hid hy2
          have hmb : (m : Int) ≤ 4194304 := by omega
          clear hby hquc hno P1 P1d P2 hr2 hb2 hne hw3 hmq hy2 HR2
          go_wp2_with fail
          go_region
          all_goals
            rw [HW3.out]
            clear c1 cu c2 f1
            go_wp2_with fail
            go_region
          all_goals
            go_wp2_with fail
            go_ret
            rw [HR.out, ← HY2.out]
            exact ⟨rfl, rtwV_mk (twin_with HT1.out _) (refR_more (refR_below HP2.out.1 (below_draws (Below.refl _ _) ⟨_, rfl⟩)) (fun _ h => .inl h)) (kept_draw (kept_trans HKP.out (kept_mono HP2.out.2 (fun k e => by subst e; exact .inl (HH1.out.yl _ rfl)))) ⟨_, rfl⟩)⟩

theorem refR_cut {w : World} {Y : Nat → Prop} {h : Nat} {D : DiskM} {L : Value} {rs : List RecF} {X : Nat → Prop} (H : RefR w Y h D L rs X) : RefR w (fun k => Y k ∧ k < w.heap.size) h D L rs X :=
  ⟨H.fs, ⟨H.yh, refR_lt H⟩, H.rwd, H.own, fun k hk => ⟨H.yl k hk, own_lt H.own hk⟩, fun k hk => ⟨⟨(H.xy k hk).1, (H.xy k hk).2.2.2⟩, (H.xy k hk).2⟩, H.bys⟩

/-- A store into a block that is not its own. -/
theorem refR_other {w : World} {Y : Nat → Prop} {h : Nat} {D : DiskM} {L : Value} {rs : List RecF} {X : Nat → Prop} (H : RefR w Y h D L rs X) {g : Nat} (hg : ¬ Y g) (j : Nat) (u : Value) : RefR (w.setCell ⟨g, j, none⟩ u) Y h D L rs X :=
  ⟨H.fs, H.yh, Rw.other H.rwd (fun e => hg (by rw [e]; exact H.yh)) _ _, own_same H.own (fun k hk => heap_put w (fun e => hg (by rw [← e]; exact H.yl k hk)) _ _), H.yl,
    fun k hk => ⟨(H.xy k hk).1, (H.xy k hk).2.1, (H.xy k hk).2.2.1, by have := (H.xy k hk).2.2.2; simpa [World.setCell] using this⟩,
    fun r hr => byteZ_keep (H.bys r hr) (fun k _ hk => heap_put w (fun e => hg (by rw [← e]; exact (H.xy k hk).1)) _ _) (fun _ h => h)⟩

/-- Beside a box of the call's own. -/
def BoxR (w w4 wr : World) (Y : Nat → Prop) (g h : Nat) (D : DiskM) (X : Nat → Prop) : Prop :=
  ∃ Yr L ps, RefR wr Yr h D L ps X ∧ (∀ k, Yr k → Y k ∨ (w.heap.size ≤ k ∧ k < wr.heap.size)) ∧ ¬ Yr g ∧ Kept (fun k => k = h) w4 wr

theorem box_start {w w3 w4 : World} {Y : Nat → Prop} {h : Nat} {D : DiskM} {L : Value} {rs : List RecF} {X : Nat → Prop} (H : RefR w3 Y h D L rs X) (hb : Below w3.heap.size w3 w4) : BoxR w w4 w4 Y w3.heap.size h D X :=
  ⟨_, L, rs, refR_below (refR_cut H) hb, fun _ hk => .inl hk.1, fun hk => Nat.lt_irrefl _ hk.2, kept_refl _ _⟩

theorem box_without {w w4 wr : World} {Y : Nat → Prop} {g h : Nat} {D : DiskM} {X : Nat → Prop} (H : BoxR w w4 wr Y g h D X) (hg : g < wr.heap.size) (hw : w.heap.size ≤ wr.heap.size) {k : Nat} {s : List UInt8} (hp : posM D.fs s = some k) (hs : SortM D.fs) (hl : D.fs.length ≤ 64) :
    Calls Try.prog 49 #[.pointer (some ⟨h, 0, none⟩), .int .i64 k] wr fun e w' => e = .returned (.tuple #[]) ∧ BoxR w w4 w' Y g h { D with fs := dropM s D.fs } X := by
  obtain ⟨Yr, L, ps, R, hY, hng, hk⟩ := H
  have hkl : k < ps.length := by have := posM_lt hp; rw [← R.fs, List.length_map] at this; exact this
  refine (rwithout_any R hkl (by have := hl; rw [← R.fs, List.length_map] at this; exact this)).mono ?_
  rintro e w' ⟨rfl, L', h1, h2⟩
  rw [erase_drop hs hp] at h1
  have := h2.size
  refine ⟨rfl, _, L', _, h1, fun k hk => ?_, fun hk => ?_, kept_trans hk h2⟩
  · rcases hk with hk | hk
    · exact (hY k hk).imp id (fun hk => ⟨hk.1, by omega⟩)
    · exact .inr ⟨by omega, hk.2⟩
  · rcases hk with hk | hk
    · exact hng hk
    · omega

theorem box_find {w w4 wr : World} {Y : Nat → Prop} {g h : Nat} {D : DiskM} {X : Nat → Prop} (H : BoxR w w4 wr Y g h D X) (hl : D.fs.length ≤ 64) (s : ByteArray) :
    Calls Try.prog 46 #[.pointer (some ⟨h, 0, none⟩), .string s] wr fun e w' => e = .returned (.int .i64 (posO (posM D.fs s.data.toList))) ∧ w' = wr := by
  obtain ⟨Yr, L, ps, R, _⟩ := H
  have := rfind_any R s (by have := hl; rw [← R.fs, List.length_map] at this; omega)
  rw [posI_o] at this
  exact this

theorem box_put {w w3 w4 wr : World} {Y : Nat → Prop} {h : Nat} {D : DiskM} {X : Nat → Prop} (H : BoxR w w4 wr Y w3.heap.size h D X) (hk3 : Kept Y w w3) (hb : Below w3.heap.size w3 w4) (hX : ∀ k, X k → k < w3.heap.size ∧ k ≠ h) (hyh : Y h) (u : Value) (x : RecF) (hx : ByteZ w3 X x.u x.f.b) (hl : D.fs.length ≤ 64) (hs : SortM D.fs) (hp : ∀ f ∈ D.fs, f.name ≠ x.f.name) :
    Calls Try.prog 47 #[.pointer (some ⟨h, 0, none⟩), xV x] (wr.setCell ⟨w3.heap.size, 0, none⟩ u) fun e w' => e = .returned (.tuple #[]) ∧ RefI w' (fun k => Y k ∨ (w.heap.size ≤ k ∧ k < w'.heap.size)) h { D with fs := putM x.f D.fs } ∧ Kept Y w w' := by
  obtain ⟨Yr, L, ps, R, hY, hng, hk⟩ := H
  have hsz : (wr.setCell ⟨w3.heap.size, 0, none⟩ u).heap.size = wr.heap.size := by simp [World.setCell]
  have hk4 : Kept Y w wr := kept_trans (kept_trans hk3 (kept_below hb)) (kept_mono hk (fun k e => by subst e; exact .inl hyh))
  have hkp : Kept Y w (wr.setCell ⟨w3.heap.size, 0, none⟩ u) := kept_put hk4 (.inr hk3.size) _ _
  refine (rput_tw (refR_other R hng 0 u) x (byteZ_keep hx (fun k hlt hXk => ?_) (fun _ h => h)) (by have := hl; rw [← R.fs, List.length_map] at this; exact this) hs hp).mono ?_
  · rw [heap_put wr (fun e => by have := (hX k hXk).1; omega) 0 u, hk.blk k (Nat.lt_of_lt_of_le hlt hb.size) (hX k hXk).2, hb.block k hlt]
  · rintro e w' ⟨rfl, ⟨L', ps', X', h1⟩, h2⟩
    have hs1 := hk4.size
    have hs2 := h2.size
    rw [hsz] at hs2
    exact ⟨rfl, ⟨L', ps', X', refR_more h1 (fun k hk => by
      rw [hsz] at hk
      rcases hk with hk | hk
      · exact (hY k hk).imp id (fun hk => ⟨hk.1, by omega⟩)
      · exact .inr ⟨by omega, hk.2⟩)⟩, kept_then hkp h2 (fun k hk => (hY k hk).imp id (fun hk => hk.1))⟩

theorem box_cells {w w4 wr : World} {Y : Nat → Prop} {g h : Nat} {D : DiskM} {X : Nat → Prop} {cs : List Value} (H : BoxR w w4 wr Y g h D X) (hr : Rw w4 0 g 84 cs) : Rw wr 0 g 84 cs := by
  obtain ⟨Yr, L, ps, R, hY, hng, hk⟩ := H
  exact rw_kept hr hk (fun e => hng (by rw [e]; exact R.yh))

theorem box_size {w w4 wr : World} {Y : Nat → Prop} {g h : Nat} {D : DiskM} {X : Nat → Prop} (H : BoxR w w4 wr Y g h D X) : w4.heap.size ≤ wr.heap.size := by
  obtain ⟨Yr, L, ps, R, hY, hng, hk⟩ := H
  exact hk.size

theorem dropM_len {s : List UInt8} {fs : List FileM} : (dropM s fs).length ≤ fs.length := List.length_filter_le _ _

theorem dropM_drop {s : List UInt8} {fs : List FileM} : dropM s (dropM s fs) = dropM s fs := dropM_none (fun _ hf => (dropM_mem.1 hf).2)

set_option maxRecDepth 100000 in
set_option maxHeartbeats 8000000 in
/-- Rename. -/
theorem rrename_any {w : World} {Y : Nat → Prop} {h : Nat} {C : CodM} (H : RTw w Y h C) (hok : COk C) (hops : C.ops < 1000000) (s t : ByteArray) :
    Calls Try.prog 18 #[.pointer (some ⟨h, 0, none⟩), .string s, .string t] w fun e w' => e = .returned (.int .i64 (renM C s.data.toList t.data.toList).1) ∧ RTwV w w' Y h (renM C s.data.toList t.data.toList).2 := by
  obtain ⟨D, T, L, rs, X, R0⟩ := H
  obtain ⟨hgo, T1⟩ := twin_tick T (by omega)
  have hfs := R0.fs
  have hrl : rs.length ≤ 64 := by have := hok.len; rw [← T.fs, ← hfs, List.length_map] at this; exact this
  have hyh := R0.yh
  have HO := Lib.hid (roff_any R0 (by have := T.n; omega))
  obtain ⟨R, hR⟩ : ∃ R, R = renM C s.data.toList t.data.toList := ⟨_, rfl⟩
  rw [← hR]
  obtain ⟨bo, hbo⟩ : ∃ bo, bo = offM D := ⟨_, rfl⟩
  rw [← hbo] at HO
  cases bo
  case true =>
    have HR : Hid (R = (6, tickM C)) := Lib.hid (by rw [hR]; unfold renM; rw [if_pos (by rw [hgo, ← hbo]; rfl)])
    clear hrl hfs hbo hgo hR
    go_enter Try.func18, Try.ntmps18
    go_wp2_with fail
    refine HO.out.mono ?_
    rintro e w1 ⟨rfl, H1, K1⟩
    go_wp2
    go_ret
    rw [HR.out]
    exact ⟨rfl, rtwV_same T1 H1 K1⟩
  case false =>
    have hgoes : goesM C = true := by rw [hgo, ← hbo]; rfl
    have HRR : Hid (R = match findM C.fs s.data.toList with
      | none => (4, tickM C)
      | some f => if nameB t.data.toList = false then (1, tickM C) else (0, withM (tickM C) (putM ⟨t.data.toList, f.b, f.syn⟩ (dropM s.data.toList C.fs)))) := Lib.hid (by rw [hR]; unfold renM; rw [if_neg (by rw [hgoes]; decide)]; cases findM C.fs s.data.toList <;> rfl)
    obtain ⟨pm, hpm⟩ : ∃ pm, pm = posM D.fs s.data.toList := ⟨_, rfl⟩
    have HF : Hid (∀ (W : World), RefR W Y h D.op L rs X → Calls Try.prog 46 #[.pointer (some ⟨h, 0, none⟩), .string s] W fun e w' => e = .returned (.int .i64 (posO pm)) ∧ w' = W) := Lib.hid (fun W H1 => by
      have := rfind_any H1 s (by omega)
      rw [posI_o, show D.op.fs = D.fs from rfl, ← hpm] at this
      exact this)
    have HT1 := Lib.hid T1
    have HSO : Hid (SortM D.fs) := Lib.hid (by rw [T.fs]; exact hok.sort)
    have HTF := Lib.hid T.fs
    have HFS := Lib.hid hfs
    have HPM := Lib.hid hpm
    have HLE : Hid (D.fs.length ≤ 64) := Lib.hid (by rw [T.fs]; exact hok.len)
    cases pm with
    | none =>
      have HR : Hid (R = (4, tickM C)) := Lib.hid (by rw [HRR.out, ← HTF.out, pos_nofind HPM.out.symm])
      have hp1 : posO none = -1 := rfl
      rw [hp1] at HF
      clear hbo hgo hgoes hR hfs hrl T T1 hok hpm R0 hp1
      go_enter Try.func18, Try.ntmps18
      go_wp2_with fail
      refine HO.out.mono ?_
      rintro e w1 ⟨rfl, H1, K1⟩
      have HT := Lib.hid (rtwV_same HT1.out H1 K1)
      have HF1 := Lib.hid (HF.out w1 H1)
      clear H1 K1
      go_wp2_with fail
      refine (HF1.out).mono ?_
      rintro e w2 ⟨rfl, rfl⟩
      go_wp2
      go_ret
      rw [HR.out]
      exact ⟨rfl, HT.out⟩
    | some k =>
      obtain ⟨f, hf, hff, hfn⟩ := pos_find hpm.symm
      obtain ⟨r, hr, hrf⟩ : ∃ r, rs[k]? = some r ∧ r.f = f := by
        rw [← hfs, List.getElem?_map] at hf
        obtain ⟨r, hr, e⟩ := Option.map_eq_some_iff.1 hf
        exact ⟨r, hr, e⟩
      subst hrf
      have hkl := (List.getElem?_eq_some_iff.1 hr).1
      obtain ⟨y, hy⟩ : ∃ y, y = r.f.syn := ⟨_, rfl⟩
      have HR2 : Hid (R = if nameB t.data.toList = false then (1, tickM C) else (0, withM (tickM C) (putM ⟨t.data.toList, r.f.b, y⟩ (dropM s.data.toList C.fs)))) := Lib.hid (by rw [HRR.out, ← HTF.out, hff, hy])
      obtain ⟨bn, hbn⟩ : ∃ bn, bn = nameB t.data.toList := ⟨_, rfl⟩
      have HBAD : Hid (∀ W, Calls Try.prog 45 #[.string t] W fun e w' => e = .returned (.bool (!bn)) ∧ w' = W) := Lib.hid (fun W => by have := rbad_any t W; rw [← hbn] at this; exact this)
      obtain ⟨la, lc, hLL, hla, _⟩ := own_addr R0.own
      subst hLL
      obtain ⟨gl, rfl⟩ := hla.resolve_left (by omega)
      obtain ⟨n, hn⟩ : ∃ n, n = rs.length := ⟨_, rfl⟩
      obtain ⟨ua, un, uc, hu⟩ : ∃ ua un uc, r.u = .slice ua un uc := by
        rcases R0.bys r (List.mem_of_getElem? hr) with ⟨e, e2⟩ | ⟨ad, c, e, _⟩
        · exact ⟨none, 0, 0, e⟩
        · exact ⟨_, _, _, e⟩
      have hp1 : posO (some k) = (k : Int) := rfl
      rw [hp1] at HF
      have HN := Lib.hid hn
      have HRK := Lib.hid hr
      have HU := Lib.hid hu
      have HY := Lib.hid hy
      have HFN := Lib.hid hfn
      have HBN := Lib.hid hbn
      have HRL := Lib.hid hrl
      have HFK := Lib.hid hf
      have hk0 : decide ((k : Int) < 0) = false := decide_eq_false (by omega)
      have hkn0 : ¬ (k : Int) < 0 := by omega
      have hkn : (k : Int) < (n : Int) := by omega
      have hn64 : (n : Int) ≤ 64 := by omega
      have hst : (s.toList == t.toList) = decide (s.data.toList = t.data.toList) := by
        rw [ByteArray.toList_eq, ByteArray.toList_eq, Bool.eq_iff_iff]
        simp
      clear hbo hgo hgoes hR hfs hrl T T1 hok hpm R0 hp1 hf hff hfn hr hkl hy hla hu hbn
      cases bn
      case false =>
        have HR : Hid (R = (1, tickM C)) := Lib.hid (by rw [HR2.out, if_pos HBN.out.symm])
        clear HR2
        go_enter Try.func18, Try.ntmps18
        go_wp2_with fail
        refine HO.out.mono ?_
        rintro e w1 ⟨rfl, H1, K1⟩
        have HT := Lib.hid (rtwV_same HT1.out H1 K1)
        have HF1 := Lib.hid (HF.out w1 H1)
        clear H1 K1
        go_wp2_with fail
        refine (HF1.out).mono ?_
        rintro e w2 ⟨rfl, rfl⟩
        go_wp2_with fail
        refine (HBAD.out w2).mono ?_
        rintro e w3 ⟨rfl, rfl⟩
        go_wp2
        go_ret
        rw [HR.out]
        exact ⟨rfl, HT.out⟩
      case true =>
        have HR : Hid (R = (0, withM (tickM C) (putM ⟨t.data.toList, r.f.b, y⟩ (dropM s.data.toList C.fs)))) := Lib.hid (by rw [HR2.out, if_neg (by rw [← HBN.out]; decide)])
        clear HR2
        by_cases heq : s.data.toList = t.data.toList
        · rw [decide_eq_true heq] at hst
          have HE : Hid (putM ⟨t.data.toList, r.f.b, y⟩ (dropM s.data.toList C.fs) = C.fs) := Lib.hid (by
            rw [← heq, ← HTF.out, HY.out]
            exact put_back HSO.out HPM.out.symm HFK.out)
          clear heq
          go_enter Try.func18, Try.ntmps18
          go_wp2_with fail
          refine HO.out.mono ?_
          rintro e w1 ⟨rfl, H1, K1⟩
          have HT : Hid (RTwV w w1 Y h (withM (tickM C) C.fs)) := Lib.hid (by
            have h1 := rtwV_same (D := { D.op with fs := C.fs }) (twin_with HT1.out C.fs) (L := .slice (some ⟨gl, 0, none⟩) rs.length lc) (rs := rs) (X := X) (by rw [← HTF.out]; exact H1) K1
            exact h1)
          have HF1 := Lib.hid (HF.out w1 H1)
          clear H1 K1
          go_wp2_with fail
          refine (HF1.out).mono ?_
          rintro e w2 ⟨rfl, rfl⟩
          go_wp2_with fail
          refine (HBAD.out w2).mono ?_
          rintro e w3 ⟨rfl, rfl⟩
          go_wp2
          go_ret
          rw [HR.out, HE.out]
          exact ⟨rfl, HT.out⟩
        · rw [decide_eq_false heq] at hst
          have HNE := Lib.hid heq
          clear heq
          have hzz := zero_cells Try.infoRFz
          obtain ⟨nm, hnm⟩ : ∃ nm : ByteArray, nm = ⟨r.f.name.toArray⟩ := ⟨_, rfl⟩
          have HNM := Lib.hid hnm
          go_enter Try.func18, Try.ntmps18
          go_wp2_with fail
          refine HO.out.mono ?_
          rintro e w1 ⟨rfl, H1, K1⟩
          have HH1 := Lib.hid H1
          have HK1 := Lib.hid K1
          have HF1 := Lib.hid (HF.out w1 H1)
          clear H1 K1
          have c1 : w1.cell? ⟨h, 1, none⟩ = some (.slice (some ⟨gl, 0, none⟩) n lc) := by rw [HN.out]; exact Rw.cell HH1.out.rwd rfl
          have cn := rec_cells (j := 0) HH1.out.own HRK.out rfl
          have cu := rec_cells (j := 1) HH1.out.own HRK.out rfl
          have c2 := rec_cells (j := 2) HH1.out.own HRK.out rfl
          unfold nameV at cn
          rw [← hnm, Nat.add_zero] at cn
          rw [HU.out] at cu
          rw [← HY.out] at c2
          clear hnm
          go_wp2_with fail
          refine (HF1.out).mono ?_
          rintro e w2 ⟨rfl, rfl⟩
          clear HF1
          go_wp2_with fail
          refine (HBAD.out w2).mono ?_
          rintro e w3 ⟨rfl, rfl⟩
          go_wp2_with (first | (refine wpList_alloc_z rfl 84 rfl #[.string ⟨#[]⟩, .slice none 0 0, .int .i64 0] hzz ?_) | (refine wpList_store_mid rfl 84 (.tmp 8) (.tmp 28) rfl w3.heap.size 0 #[.string nm, .slice ua un uc, .int .i64 y] rfl rfl (Rw.there (Rw.alloc w3 _ _ (Nat.zero_le _)) 0 3 (Nat.le_refl _)) (by kernel_rfl) (by rfl) ?_) | fail)
          obtain ⟨gs, hgs⟩ : ∃ gs, gs = w3.heap.size := ⟨_, rfl⟩
          have hb4 : Below w3.heap.size w3 (w3.alloc (.cells #[.string nm, .slice ua un uc, .int .i64 y] 84)) := below_more (Below.refl _ _) _
          have hbox := box_start (w := w) HH1.out hb4
          have hR4 : Rw (w3.alloc (.cells #[.string nm, .slice ua un uc, .int .i64 y] 84)) 0 w3.heap.size 84 [.string nm, .slice ua un uc, .int .i64 y] := Rw.alloc w3 _ _ (Nat.zero_le _)
          have hlt4 : w3.heap.size < (w3.alloc (.cells #[.string nm, .slice ua un uc, .int .i64 y] 84)).heap.size := Rw.size hR4
          obtain ⟨w4, hw4⟩ : ∃ w4, w4 = w3.alloc (.cells #[.string nm, .slice ua un uc, .int .i64 y] 84) := ⟨_, rfl⟩
          rw [← hw4] at hb4 hbox hR4 hlt4 ⊢
          have HK3 : Hid (Kept Y w w3) := Lib.hid (kept_mono HK1.out (fun k e => by subst e; exact .inl hyh))
          have HX3 : Hid (∀ k, X k → k < w3.heap.size ∧ k ≠ h) := Lib.hid (fun k hk => ⟨(HH1.out.xy k hk).2.2.2, (HH1.out.xy k hk).2.1⟩)
          have HBZ : Hid (ByteZ w3 X (.slice ua un uc) r.f.b) := Lib.hid (by rw [← HU.out]; exact HH1.out.bys r (List.mem_of_getElem? HRK.out))
          have HB4 := Lib.hid hb4
          have HBX := Lib.hid hbox
          have HR4 := Lib.hid hR4
          have HS4 : Hid (w.heap.size ≤ w3.heap.size ∧ w3.heap.size < w4.heap.size) := Lib.hid ⟨HK3.out.size, hlt4⟩
          have HWO := Lib.hid (box_without hbox hlt4 (by have := HS4.out; omega) (k := k) (s := s.data.toList) HPM.out.symm HSO.out HLE.out)
          clear hb4 hbox hR4 hlt4 hw4 c1 cn cu c2
          have HPUT : Hid (∀ (wr : World) (D' : DiskM), BoxR w w4 wr Y gs h D' X → D'.fs.length ≤ 64 → SortM D'.fs → (∀ f ∈ D'.fs, f.name ≠ t.data.toList) → Calls Try.prog 47 #[.pointer (some ⟨h, 0, none⟩), .agg #[.string t, .slice ua un uc, .int .i64 y]] (wr.setCell ⟨gs, 0, none⟩ (.string t)) fun e w' => e = .returned (.tuple #[]) ∧ RefI w' (fun k => Y k ∨ (w.heap.size ≤ k ∧ k < w'.heap.size)) h { D' with fs := putM ⟨t.data.toList, r.f.b, y⟩ D'.fs } ∧ Kept Y w w') := Lib.hid (fun wr D' hx hl hs hp => by
            rw [hgs] at hx ⊢
            have := box_put hx HK3.out HB4.out HX3.out hyh (.string t) ⟨⟨t.data.toList, r.f.b, y⟩, .slice ua un uc⟩ HBZ.out hl hs hp
            rw [xV_eq] at this
            exact this)
          have HEND : Hid (∀ w' : World, RefI w' (fun k => Y k ∨ (w.heap.size ≤ k ∧ k < w'.heap.size)) h { D.op with fs := putM ⟨t.data.toList, r.f.b, y⟩ (dropM s.data.toList C.fs) } → Kept Y w w' → RTwV w w' Y h R.2) := Lib.hid (fun w' hr hk => by
            rw [HR.out]
            exact ⟨⟨_, twin_with HT1.out _, hr⟩, hk⟩)
          have HGS := Lib.hid hgs
          rw [← hgs] at HWO HBX HR4 ⊢
          clear hgs
          refine (HWO.out).mono ?_
          rintro e w5 ⟨rfl, hbx5⟩
          have HBX5 := Lib.hid hbx5
          have HDL : Hid ((dropM s.data.toList D.fs).length ≤ 64) := Lib.hid (Nat.le_trans dropM_len HLE.out)
          have HDS : Hid (SortM (dropM s.data.toList D.fs)) := Lib.hid (dropM_sort HSO.out)
          have HFI := Lib.hid (box_find hbx5 HDL.out t)
          obtain ⟨pj, hpj⟩ : ∃ pj, pj = posM (dropM s.data.toList D.fs) t.data.toList := ⟨_, rfl⟩
          rw [show ({ D.op with fs := dropM s.data.toList D.op.fs } : DiskM).fs = dropM s.data.toList D.fs from rfl, ← hpj] at HFI
          have HPJ := Lib.hid hpj
          have HG5 : Hid (gs < w5.heap.size ∧ w.heap.size ≤ w5.heap.size) := Lib.hid (by
            have h1 := box_size hbx5
            have := HS4.out
            have := HGS.out
            omega)
          clear hbx5 hpj HWO
          cases pj with
          | none =>
            have hp2 : posO none = -1 := rfl
            rw [hp2] at HFI
            clear hp2
            have hr5 := box_cells HBX5.out HR4.out
            have b0 : w5.cell? ⟨gs, 0, none⟩ = some (.string nm) := Rw.cell hr5 rfl
            have b1 : w5.cell? ⟨gs, 1, none⟩ = some (.slice ua un uc) := Rw.cell hr5 rfl
            have b2 : w5.cell? ⟨gs, 2, none⟩ = some (.int .i64 y) := Rw.cell hr5 rfl
            have g0 : w5.frozen? ⟨gs, 0, none⟩ = false := Rw.free hr5 0
            have hr6 := Rw.stored hr5 0 (.string t)
            have e0 : (w5.setCell ⟨gs, 0, none⟩ (.string t)).cell? ⟨gs, 0, none⟩ = some (.string t) := Rw.cell hr6 rfl
            have e1 : (w5.setCell ⟨gs, 0, none⟩ (.string t)).cell? ⟨gs, 1, none⟩ = some (.slice ua un uc) := Rw.cell hr6 rfl
            have e2 : (w5.setCell ⟨gs, 0, none⟩ (.string t)).cell? ⟨gs, 2, none⟩ = some (.int .i64 y) := Rw.cell hr6 rfl
            have HP := Lib.hid (HPUT.out w5 _ HBX5.out HDL.out HDS.out (findM_none (pos_nofind HPJ.out.symm)))
            have HL6 : Hid (Rw (w5.setCell ⟨gs, 0, none⟩ (.string t)) 0 gs 84 [.string t, .slice ua un uc, .int .i64 y]) := Lib.hid hr6
            clear hr5 hr6
            go_wp2_with fail
            refine (HFI.out).mono ?_
            rintro e w6 ⟨rfl, rfl⟩
            go_wp2_with (first | (refine wpList_load_mid rfl 84 (.tmp 8) rfl gs 0 [.string t, .slice ua un uc, .int .i64 y] rfl (Rw.range HL6.out 0 _ (fun j v hj => by rw [Nat.zero_add]; exact hj)) (by kernel_rfl) ?_) | fail)
            refine (HP.out).mono ?_
            rintro e w7 ⟨rfl, hr7, hk7⟩
            have HZ := Lib.hid (HEND.out w7 (by rw [← HTF.out]; exact hr7) hk7)
            clear hr7 hk7
            go_wp2
            go_ret
            exact ⟨by rw [show R.1 = 0 by rw [HR.out]]; rfl, HZ.out⟩
          | some j =>
            have hp2 : posO (some j) = (j : Int) := rfl
            have hj0 : ¬ (j : Int) < 0 := by omega
            have hj1 : (0 : Int) ≤ (j : Int) := by omega
            rw [hp2] at HFI
            have HWJ := Lib.hid (box_without HBX5.out HG5.out.1 HG5.out.2 (k := j) (s := t.data.toList) HPJ.out.symm HDS.out HDL.out)
            clear hp2
            go_wp2_with fail
            refine (HFI.out).mono ?_
            rintro e w6 ⟨rfl, rfl⟩
            go_wp2_with fail
            refine (HWJ.out).mono ?_
            rintro e w8 ⟨rfl, hbx8⟩
            have hr5 := box_cells hbx8 HR4.out
            have b0 : w8.cell? ⟨gs, 0, none⟩ = some (.string nm) := Rw.cell hr5 rfl
            have b1 : w8.cell? ⟨gs, 1, none⟩ = some (.slice ua un uc) := Rw.cell hr5 rfl
            have b2 : w8.cell? ⟨gs, 2, none⟩ = some (.int .i64 y) := Rw.cell hr5 rfl
            have g0 : w8.frozen? ⟨gs, 0, none⟩ = false := Rw.free hr5 0
            have hr6 := Rw.stored hr5 0 (.string t)
            have e0 : (w8.setCell ⟨gs, 0, none⟩ (.string t)).cell? ⟨gs, 0, none⟩ = some (.string t) := Rw.cell hr6 rfl
            have e1 : (w8.setCell ⟨gs, 0, none⟩ (.string t)).cell? ⟨gs, 1, none⟩ = some (.slice ua un uc) := Rw.cell hr6 rfl
            have e2 : (w8.setCell ⟨gs, 0, none⟩ (.string t)).cell? ⟨gs, 2, none⟩ = some (.int .i64 y) := Rw.cell hr6 rfl
            have HP := Lib.hid (HPUT.out w8 _ hbx8 (Nat.le_trans dropM_len HDL.out) (dropM_sort HDS.out) (fun f hf => (dropM_mem.1 hf).2))
            have HL6 : Hid (Rw (w8.setCell ⟨gs, 0, none⟩ (.string t)) 0 gs 84 [.string t, .slice ua un uc, .int .i64 y]) := Lib.hid hr6
            clear hr5 hr6 hbx8
            go_wp2_with (first | (refine wpList_load_mid rfl 84 (.tmp 8) rfl gs 0 [.string t, .slice ua un uc, .int .i64 y] rfl (Rw.range HL6.out 0 _ (fun j v hj => by rw [Nat.zero_add]; exact hj)) (by kernel_rfl) ?_) | fail)
            refine (HP.out).mono ?_
            rintro e w7 ⟨rfl, hr7, hk7⟩
            have HZ := Lib.hid (HEND.out w7 (by
              rw [← HTF.out]
              have e : putM ⟨t.data.toList, r.f.b, y⟩ (dropM t.data.toList (dropM s.data.toList D.fs)) = putM ⟨t.data.toList, r.f.b, y⟩ (dropM s.data.toList D.fs) := by
                unfold putM
                rw [dropM_drop]
              have h7 : RefI w7 (fun k => Y k ∨ (w.heap.size ≤ k ∧ k < w7.heap.size)) h { D.op with fs := putM ⟨t.data.toList, r.f.b, y⟩ (dropM t.data.toList (dropM s.data.toList D.fs)) } := hr7
              rw [e] at h7
              exact h7) hk7)
            clear hr7 hk7
            go_wp2
            go_ret
            exact ⟨by rw [show R.1 = 0 by rw [HR.out]]; rfl, HZ.out⟩

end Go.Proofs.Ytfiocghgjjandaa
