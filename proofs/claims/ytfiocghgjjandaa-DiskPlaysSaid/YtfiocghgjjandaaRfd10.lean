/- Contracts: the reference disk's Crash. -/
import Derived.BigRegion
import Derived.BigQuiet
import Derived.Deep.RegionHeld3
import Derived.Deep.RegionLaw
import Derived.Maps.AppendAt
import Derived.Test.YtfiocghgjjandaaProg
import Derived.Test.YtfiocghgjjandaaKit
import Derived.Test.YtfiocghgjjandaaInfo
import Derived.Test.YtfiocghgjjandaaRow
import Derived.Test.YtfiocghgjjandaaCod5
import Derived.Test.YtfiocghgjjandaaCod7
import Derived.Test.YtfiocghgjjandaaCod9
import Derived.Test.YtfiocghgjjandaaJoin
import Derived.Test.YtfiocghgjjandaaFrm8
import Derived.Test.YtfiocghgjjandaaFp
import Derived.Test.YtfiocghgjjandaaRdk0
import Derived.Test.YtfiocghgjjandaaDsk6
import Derived.Test.YtfiocghgjjandaaDsk8
import Derived.Test.YtfiocghgjjandaaDsk13
import Derived.Test.YtfiocghgjjandaaDsk14
import Derived.Test.YtfiocghgjjandaaDsk17
import Derived.Test.YtfiocghgjjandaaRfd0
import Derived.Test.YtfiocghgjjandaaRfd3
import Derived.Test.YtfiocghgjjandaaRfd4
import Derived.Test.YtfiocghgjjandaaRfd7
namespace Go.Proofs.Ytfiocghgjjandaa
open Go.RowKit Go.Proofs

/-- A crash under way: k files are done, t picks are passed. -/
def RCrashR (w wr : World) (g : Nat) (room : Int) (fs : List FileM) (ps0 : List Int) (k t : Nat) (L : Value) (rs : List RecF) : Prop :=
  ∃ X, RefR wr (fun b => w.heap.size ≤ b ∧ b < wr.heap.size) g ⟨room, rs.map (·.f), 0, -1⟩ L rs X ∧ CrashI fs ps0 k (ps0.drop t) (rs.map (·.f)) ∧ Below w.heap.size w wr

theorem crash_len {w wr : World} {g : Nat} {room : Int} {fs : List FileM} {ps0 : List Int} {k t : Nat} {L : Value} {rs : List RecF} (H : RCrashR w wr g room fs ps0 k t L rs) (hk : k ≤ fs.length) : rs.length = k := by
  obtain ⟨X, _, h, _⟩ := H
  have := congrArg List.length h.2
  rw [List.length_map, List.length_map, List.length_map, List.length_take] at this
  omega

/-- What a file keeps: one way for each. -/
def pickI (f : FileM) (ps0 : List Int) (t : Nat) : Nat × Nat :=
  if f.syn < f.b.length then (match ps0[t]? with | none => (0, t + 1) | some p => ((p % ((f.b.length - f.syn + 1 : Nat) : Int)).toNat, t + 1)) else (0, t)

theorem pick_next {fs : List FileM} {ps0 : List Int} {k t : Nat} {done : List FileM} {f : FileM} (h : CrashI fs ps0 k (ps0.drop t) done) (hf : fs[k]? = some f) : CrashI fs ps0 (k + 1) (ps0.drop (pickI f ps0 t).2) (done ++ [lastM f (pickI f ps0 t).1]) := by
  refine crashI_next h hf ?_
  unfold pickI
  by_cases hs : f.syn < f.b.length
  · rw [if_pos hs]
    cases hp : ps0[t]? with
    | none =>
      have hl := List.getElem?_eq_none_iff.1 hp
      simp only
      rw [List.drop_of_length_le (l := ps0) (i := t) (by omega), List.drop_of_length_le (l := ps0) (i := t + 1) (by omega)]
      exact crashL_none
    | some p =>
      have hl := (List.getElem?_eq_some_iff.1 hp).1
      simp only
      rw [List.drop_eq_getElem_cons hl, (List.getElem?_eq_some_iff.1 hp).2]
      exact crashL_take hs
  · rw [if_neg hs]
    exact crashL_skip hs

theorem pick_le {f : FileM} {ps0 : List Int} {t : Nat} (h : f.syn ≤ f.b.length) : f.syn + (pickI f ps0 t).1 ≤ f.b.length := by
  unfold pickI
  by_cases hs : f.syn < f.b.length
  · rw [if_pos hs]
    cases hp : ps0[t]? with
    | none => simpa using h
    | some p =>
      simp only
      have h1 := Int.emod_nonneg p (show ((f.b.length - f.syn + 1 : Nat) : Int) ≠ 0 by omega)
      have h2 := Int.emod_lt_of_pos p (show (0 : Int) < ((f.b.length - f.syn + 1 : Nat) : Int) by omega)
      omega
  · rw [if_neg hs]
    simpa using h

theorem tmod_emod (x : Int) (n : Int) (h : 0 < n) : x % n = if x.tmod n < 0 then x.tmod n + n else x.tmod n := by
  have hlt := Int.tmod_lt_of_pos x h
  have hgt := Int.lt_tmod_of_pos x h
  have hem : x % n = x.tmod n % n := by
    have h := Int.tmod_add_mul_tdiv x n
    rw [← h, Int.add_mul_emod_self_left, h]
  rw [hem]
  split
  · rw [← Int.add_emod_right, Int.emod_eq_of_lt (by omega) (by omega)]
  · rw [Int.emod_eq_of_lt (by omega) (by omega)]

/-- One file more. -/
theorem crash_add {w wr Wd w2 : World} {g : Nat} {room : Int} {fs : List FileM} {ps0 : List Int} {k t : Nat} {L L' : Value} {rs : List RecF} {f : FileM} {u : Value} {y : Nat} (H : RCrashR w wr g room fs ps0 k t L rs) (hf : fs[k]? = some f) (hy : y = f.syn + (pickI f ps0 t).1)
    {w1 : World} (hb1 : Below wr.heap.size wr w1) (hu : w1.ownsRow wr.heap.size 5 1 u (f.b.take y).length ((f.b.take y).map byteV)) (hbd : Below w1.heap.size w1 Wd)
    (ho : w2.ownsRow 0 84 3 L' (rs.length + 1) (rowsF rs ++ [nameV f.name, u, .int .i64 y])) (hg : Wd.grownBy w2 L.ownBlock) (hl : L'.ownBlock = L.ownBlock ∨ L'.ownBlock = some Wd.heap.size) :
    (∃ rs', RCrashR w (w2.setCell ⟨g, 1, none⟩ L') g room fs ps0 (k + 1) (pickI f ps0 t).2 L' rs') ∧ w2.cell? ⟨g, 1, none⟩ = some L ∧ w2.frozen? ⟨g, 1, none⟩ = false := by
  obtain ⟨X, hR, hC, hB⟩ := H
  have h1 := refR_newX hR hb1
  have hbz : ByteZ w1 (fun k => X k ∨ (wr.heap.size ≤ k ∧ k < w1.heap.size)) u (f.b.take y) := byteZ_own hu (fun k hk => .inr (World.ownsRow.lt hu k hk))
  obtain ⟨⟨h2, h3⟩, h4, h5⟩ := put_grow (x := ⟨⟨f.name, f.b.take y, y⟩, u⟩) h1 hbz hbd ho hg hl
  refine ⟨⟨putI rs ⟨⟨f.name, f.b.take y, y⟩, u⟩ rs.length, _, refR_more (show RefR _ _ g ⟨room, (putI rs ⟨⟨f.name, f.b.take y, y⟩, u⟩ rs.length).map (·.f), 0, -1⟩ L' _ _ from h2) (fun k hk => ?_), ?_, ?_⟩, h4, h5⟩
  · have hs := h3.size
    have := hb1.size
    have := hB.size
    rcases hk with (hk | hk) | hk
    · exact ⟨hk.1, by omega⟩
    · exact ⟨by omega, by omega⟩
    · exact ⟨by omega, hk.2⟩
  · have e : (putI rs ⟨⟨f.name, f.b.take y, y⟩, u⟩ rs.length).map (·.f) = rs.map (·.f) ++ [lastM f (pickI f ps0 t).1] := by
      unfold putI lastM
      rw [List.take_length, List.drop_length, List.map_append, hy]
      rfl
    rw [e]
    exact pick_next hC hf
  · have hk := kept_then (kept_below (F := fun b => w.heap.size ≤ b) (hB.trans (hb1.mono hB.size))) h3 (fun x hx => by
      have := hB.size
      rcases hx with hx | hx
      · exact .inl hx.1
      · exact .inl (by omega))
    exact ⟨hk.os, hk.tape, hk.output, hk.size, fun k hlt => hk.blk k hlt (by omega)⟩

/-- Behind the append of a file's bytes: what is to be read then. -/
theorem crash_row {w w3 wB w5 : World} {g : Nat} {room : Int} {fs : List FileM} {ps0 : List Int} {k t : Nat} {qa : Option Addr} {qc : Nat} {qs : List RecF} {nm : ByteArray} {y z gb : Nat} {m : List UInt8} {v5 : Value} {cu : Value}
    (_H : RCrashR w w3 g room fs ps0 k t (.slice qa qs.length qc) qs) (_hoq : w3.ownsRow 0 84 3 (.slice qa qs.length qc) qs.length (rowsF qs)) (hc1 : w3.cell? ⟨g, 1, none⟩ = some (.slice qa qs.length qc))
    (hb : Below w3.heap.size w3 wB) (hrb : Rw wB 0 gb 84 [.string nm, cu, .int .i64 y]) (hm : m.length = z) {gz : Nat}
    (ho : w5.ownsRow w3.heap.size 5 1 v5 (0 + m.length) (([] : List UInt8).map byteV ++ m.map byteV)) (hg : wB.grownBy w5 (Value.slice (some ⟨gz, 0, none⟩) 0 0).ownBlock) (hgz : w3.heap.size ≤ gz ∧ gz ≠ gb) :
    ∃ a5 c5, v5 = .slice a5 z c5 ∧ Below w3.heap.size w3 w5 ∧ w5.ownsRow w3.heap.size 5 1 (.slice a5 z c5) m.length (m.map byteV) ∧ w5.cell? ⟨g, 1, none⟩ = some (.slice qa qs.length qc) ∧ w5.cell? ⟨gb, 0, none⟩ = some (.string nm) ∧
      (w5.alloc (.cells #[.string nm, .slice a5 z c5, .int .i64 z] 84)).cell? ⟨g, 1, none⟩ = some (.slice qa qs.length qc) ∧ (w5.alloc (.cells #[.string nm, .slice a5 z c5, .int .i64 z] 84)).cell? ⟨gb, 0, none⟩ = some (.string nm) := by
  have hb5 : Below w3.heap.size w3 w5 := hb.grown hg hb.size (fun k hk => by simp [Value.ownBlock] at hk; omega)
  have ho2 : w5.ownsRow w3.heap.size 5 1 v5 m.length (m.map byteV) := by simpa using ho
  obtain ⟨a5, c5, rfl⟩ := own_len ho2
  have e1 : w5.cell? ⟨g, 1, none⟩ = some (.slice qa qs.length qc) := cell_same hc1 (hb5.block g (block_of_cell hc1))
  have e2 : w5.cell? ⟨gb, 0, none⟩ = some (.string nm) := by
    have h1 := Rw.cell hrb (j := 0) rfl
    exact cell_same h1 (hg.block gb (block_of_cell h1) (fun e => by simp [Value.ownBlock] at e; exact hgz.2 e.symm))
  rw [hm] at ho2
  exact ⟨a5, c5, by rw [hm], hb5, by rw [hm]; exact ho2, e1, e2, kcell_moreR e1 _, kcell_moreR e2 _⟩

set_option maxRecDepth 100000 in
set_option maxHeartbeats 16000000 in
/-- Crash. -/
theorem rcrash_any {w : World} {Y : Nat → Prop} {h : Nat} {C : CodM} (H : RTw w Y h C) (hok : COk C) (ps : List Int) (v : Value) (hp : PickAt w v ps) (hri : RangeI ps) (hpl : ps.length < 140737488355328) :
    Calls Try.prog 25 #[.pointer (some ⟨h, 0, none⟩), v] w fun e w' => e = .returned (.pointer (some ⟨w.heap.size, 0, none⟩)) ∧ RTw w' (fun b => w.heap.size ≤ b ∧ b < w'.heap.size) w.heap.size (crashM C ps) ∧ Below w.heap.size w w' := by
  obtain ⟨D, T, L, rs, X, R0⟩ := H
  have hfs : rs.map (·.f) = C.fs := R0.fs.trans T.fs
  have hrl : rs.length ≤ 64 := by have := hok.len; rw [← hfs, List.length_map] at this; exact this
  obtain ⟨i0, hi, hz0, hz1, hz2⟩ := info_parts Try.infoByte
  obtain ⟨j0, hj, hy0, hy1, hy2⟩ := info_parts Try.infoRFile
  have hzz := zero_cells Try.infoRFz
  obtain ⟨pa, pc, rfl, hpc, hpcl⟩ := hp
  obtain ⟨M, hM⟩ : ∃ M, M = ps.length := ⟨_, rfl⟩
  rw [← hM] at hpc hpl ⊢
  obtain ⟨la, lc, hLL, hla, _⟩ := own_addr R0.own
  subst hLL
  obtain ⟨n, hn⟩ : ∃ n, n = rs.length := ⟨_, rfl⟩
  obtain ⟨room, hroom⟩ : ∃ room, room = D.room := ⟨_, rfl⟩
  have c0 : w.cell? ⟨h, 0, none⟩ = some (.int .i64 room) := by rw [hroom]; exact Rw.cell R0.rwd rfl
  have c1 : w.cell? ⟨h, 1, none⟩ = some (.slice la n lc) := by rw [hn]; exact Rw.cell R0.rwd rfl
  have HH := Lib.hid R0
  have HN := Lib.hid hn
  have HLA := Lib.hid hla
  have HM := Lib.hid hM
  have HPC := Lib.hid hpcl
  have HRI := Lib.hid hri
  have HFS := Lib.hid hfs
  have HRM : Hid (room = C.room) := Lib.hid (hroom.trans T.room)
  have HSY : Hid (∀ f ∈ C.fs, f.syn ≤ f.b.length ∧ f.b.length ≤ 4194304) := Lib.hid (fun f hf => by
    have h1 := hok.syn f hf
    have h2 := sizeM_mem hf
    have := hok.size
    have := hok.room
    exact ⟨h1, by omega⟩)
  rw [← hn] at hrl
  have hn64 : (n : Int) ≤ 64 := by omega
  have hMb : (M : Int) < 140737488355328 := by omega
  obtain ⟨g, hg⟩ : ∃ g, g = w.heap.size := ⟨_, rfl⟩
  have hst : RCrashR w (w.alloc (.cells #[.int .i64 room, .slice none 0 0, .int .i64 0, .int .i64 (-1)] 50)) g room C.fs ps 0 0 (.slice none 0 0) [] := by
    have hR := Rw.alloc w 50 #[.int .i64 room, .slice none 0 0, .int .i64 0, .int .i64 (-1)] (Nat.zero_le w.heap.size)
    rw [hg]
    exact ⟨fun _ => False, ⟨rfl, ⟨Nat.le_refl _, Rw.size hR⟩, hR, World.ownsRow_nil _ _ _ _, fun k hk => by simp [Value.ownBlock] at hk, fun k hk => hk.elim, fun r hr => absurd hr (by simp)⟩, ⟨by simp, by simp⟩, below_more (Below.refl _ _) _⟩
  have HST := Lib.hid hst
  have HG := Lib.hid hg
  clear hn hla hM hpc hpl hfs hroom hst R0 T hok hri hpcl hrl
  go_enter Try.func25, Try.ntmps25
  go_wp2_with fail
  subst hg
  go_loopw [6, 7] (fun tv iv wr => ∃ k t : Nat, k ≤ n ∧ t ≤ k ∧ iv = .int .i64 k ∧ tv = .int .i64 t ∧ Hid (∃ L ps', RCrashR w wr w.heap.size room C.fs ps k t L ps')) (fun _ iv _ => n - (intOf iv).toNat)
  case atStart => exact ⟨0, 0, Nat.zero_le _, Nat.le_refl _, rfl, rfl, Lib.hid ⟨_, _, HST.out⟩⟩
  case round =>
    obtain ⟨k, t, hk, ht, rfl, rfl, HR⟩ := hrel
    obtain ⟨w3, hw3⟩ : ∃ w3 : World, w3 = wr := ⟨_, rfl⟩
    subst hw3
    obtain ⟨L, qs, hcr⟩ := HR.out
    have hbw : Below w.heap.size w w3 := by obtain ⟨_, _, _, hb⟩ := hcr; exact hb
    have d1 : w3.cell? ⟨h, 1, none⟩ = some (.slice la n lc) := cell_same c1 (hbw.block h (block_of_cell c1))
    by_cases hlt : k < n
    · obtain ⟨r, hr⟩ : ∃ r, rs[k]? = some r := ⟨_, List.getElem?_eq_getElem (by rw [← HN.out]; exact hlt)⟩
      obtain ⟨gl, rfl⟩ := HLA.out.resolve_left (by have := HN.out; omega)
      have hf : C.fs[k]? = some r.f := by rw [← HFS.out, List.getElem?_map, hr]; rfl
      obtain ⟨hsyn, hbl⟩ := HSY.out r.f (List.mem_of_getElem? hf)
      have hql := crash_len hcr (by rw [← HFS.out, List.length_map, ← HN.out]; exact hk)
      have cn := rec_cells (j := 0) HH.out.own hr rfl
      have cu := rec_cells (j := 1) HH.out.own hr rfl
      have c2 := rec_cells (j := 2) HH.out.own hr rfl
      unfold nameV at cn
      obtain ⟨nm, hnm⟩ : ∃ nm : ByteArray, nm = ⟨r.f.name.toArray⟩ := ⟨_, rfl⟩
      rw [← hnm, Nat.add_zero] at cn
      have hby := HH.out.bys r (List.mem_of_getElem? hr)
      obtain ⟨ua, uc, hu⟩ : ∃ ua uc, r.u = .slice ua r.f.b.length uc := by
        rcases hby with ⟨e, e2⟩ | ⟨ad, c, e, _⟩
        · exact ⟨none, 0, by rw [e, e2]; rfl⟩
        · exact ⟨_, _, e⟩
      obtain ⟨q, hq⟩ : ∃ q, q = r.f.b.length := ⟨_, rfl⟩
      obtain ⟨y, hy⟩ : ∃ y, y = r.f.syn := ⟨_, rfl⟩
      rw [hu, ← hq] at cu hby
      rw [← hy] at c2
      have dn : w3.cell? ⟨gl, k * 3, none⟩ = some (.string nm) := cell_same cn (hbw.block gl (block_of_cell cn))
      have du : w3.cell? ⟨gl, k * 3 + 1, none⟩ = some (.slice ua q uc) := cell_same cu (hbw.block gl (block_of_cell cu))
      have d2 : w3.cell? ⟨gl, k * 3 + 2, none⟩ = some (.int .i64 y) := cell_same c2 (hbw.block gl (block_of_cell c2))
      obtain ⟨z, hz⟩ : ∃ z, z = y + (pickI r.f ps t).1 := ⟨_, rfl⟩
      obtain ⟨t2, ht2⟩ : ∃ t2, t2 = (pickI r.f ps t).2 := ⟨_, rfl⟩
      have hzq : z ≤ q := by rw [hz, hy, hq]; exact pick_le hsyn
      have hyq : y ≤ q := by omega
      -- the ways
      obtain ⟨dz, hdz⟩ : ∃ dz : Nat, dz = q - y := ⟨_, rfl⟩
      have hdi : (q : Int) - (y : Int) = (dz : Int) := by omega
      have hways : (dz = 0 ∧ z = y ∧ t2 = t) ∨ (0 < dz ∧ M ≤ t ∧ z = y ∧ t2 = t + 1) ∨ (∃ p b o, 0 < dz ∧ t < M ∧ pa = some ⟨b, o, none⟩ ∧ w.cell? ⟨b, o + t, none⟩ = some (.int .i64 p) ∧ (-9223372036854775808 ≤ p ∧ p ≤ 9223372036854775807) ∧ (z : Int) = (y : Int) + (if p.tmod ((dz : Int) + 1) < 0 then p.tmod ((dz : Int) + 1) + ((dz : Int) + 1) else p.tmod ((dz : Int) + 1)) ∧ t2 = t + 1) := by
        rw [hz, ht2]
        unfold pickI
        by_cases hs : r.f.syn < r.f.b.length
        · rw [if_pos hs]
          cases hpt : ps[t]? with
          | none => exact .inr (.inl ⟨by omega, by rw [HM.out]; exact List.getElem?_eq_none_iff.1 hpt, by simp, rfl⟩)
          | some p =>
            have hpl := (List.getElem?_eq_some_iff.1 hpt).1
            obtain ⟨b, o, hab, hcl⟩ := HPC.out.resolve_left (fun e => by rw [e] at hpl; simp at hpl)
            refine .inr (.inr ⟨p, b, o, by omega, by rw [HM.out]; exact hpl, hab, hcl t p hpt, HRI.out.1 p (List.mem_of_getElem? hpt), ?_, rfl⟩)
            have e1 : ((r.f.b.length - r.f.syn + 1 : Nat) : Int) = (dz : Int) + 1 := by omega
            simp only
            rw [e1]
            have h1 := Int.emod_nonneg p (show (dz : Int) + 1 ≠ 0 by omega)
            rw [← tmod_emod p ((dz : Int) + 1) (by omega)]
            omega
        · rw [if_neg hs]
          exact .inl ⟨by omega, by simp, rfl⟩
      have HY := Lib.hid hy
      have HQ := Lib.hid hq
      have HNM := Lib.hid hnm
      have HZ := Lib.hid hz
      have HF := Lib.hid hf
      have HT2 := Lib.hid ht2
      have HCR := Lib.hid hcr
      have HBY := Lib.hid hby
      have HBW := Lib.hid hbw
      have HB : Hid (z ≤ q ∧ y ≤ q ∧ q ≤ 4194304 ∧ t2 ≤ k + 1 ∧ k < n ∧ qs.length = k) := Lib.hid ⟨hzq, hyq, by omega, by
        rcases hways with ⟨_, _, h⟩ | ⟨_, _, _, h⟩ | ⟨_, _, _, _, _, _, _, _, _, h⟩ <;> omega, hlt, hql⟩
      have HQUC : Hid (q ≤ uc) := Lib.hid (byteZ_len hby)
      have hyk : (k : Int) < (n : Int) := by omega
      have hqb : (q : Int) ≤ 4194304 := by omega
      have hyb : (y : Int) ≤ (q : Int) := by omega
      have hzb : (z : Int) ≤ (q : Int) := by omega
      have htb : (t : Int) ≤ 64 := by omega
      clear hu hq hy hnm hz ht2 hzq hyq hdz hf hr hlt hk ht hsyn hbl hql cn cu c2 hby hcr hbw
      obtain ⟨qa, qc, rfl, _, _⟩ := own_addr (by obtain ⟨X2, h1, _, _⟩ := HCR.out; exact h1.own)
      have HC1 : Hid (w3.cell? ⟨w.heap.size, 1, none⟩ = some (.slice qa qs.length qc)) := Lib.hid (by obtain ⟨X2, h1, _, _⟩ := HCR.out; exact Rw.cell h1.rwd rfl)
      have HOQ : Hid (w3.ownsRow 0 84 3 (.slice qa qs.length qc) qs.length (rowsF qs)) := Lib.hid (by obtain ⟨X2, h1, _, _⟩ := HCR.out; exact h1.own)
      obtain ⟨gb, hgb⟩ : ∃ gb, gb = w3.heap.size := ⟨_, rfl⟩
      have hrb : Rw (w3.alloc (.cells #[.string nm, .slice ua q uc, .int .i64 y] 84)) 0 w3.heap.size 84 [.string nm, .slice ua q uc, .int .i64 y] := Rw.alloc w3 _ _ (Nat.zero_le _)
      have b1 : (w3.alloc (.cells #[.string nm, .slice ua q uc, .int .i64 y] 84)).cell? ⟨w3.heap.size, 1, none⟩ = some (.slice ua q uc) := Rw.cell hrb rfl
      have b2 : (w3.alloc (.cells #[.string nm, .slice ua q uc, .int .i64 y] 84)).cell? ⟨w3.heap.size, 2, none⟩ = some (.int .i64 y) := Rw.cell hrb rfl
      have hbA : Below w3.heap.size w3 (w3.alloc (.cells #[.string nm, .slice ua q uc, .int .i64 y] 84)) := below_more (Below.refl _ _) _
      have hbB : Below w3.heap.size w3 ((w3.alloc (.cells #[.string nm, .slice ua q uc, .int .i64 y] 84)).alloc (.cells #[] 5)) := hbA.trans ((below_more (Below.refl _ _) _).mono hbA.size)
      have k1 : ((w3.alloc (.cells #[.string nm, .slice ua q uc, .int .i64 y] 84)).alloc (.cells #[] 5)).cell? ⟨w3.heap.size, 1, none⟩ = some (.slice ua q uc) := kcell_moreR b1 _
      have k2 : ((w3.alloc (.cells #[.string nm, .slice ua q uc, .int .i64 y] 84)).alloc (.cells #[] 5)).cell? ⟨w3.heap.size, 2, none⟩ = some (.int .i64 y) := kcell_moreR b2 _
      have how := byteSl_zero (w3.alloc (.cells #[.string nm, .slice ua q uc, .int .i64 y] 84))
      have HOW : Hid (((w3.alloc (.cells #[.string nm, .slice ua q uc, .int .i64 y] 84)).alloc (.cells #[] 5)).ownsRow w3.heap.size 5 1 (.slice (some ⟨(w3.alloc (.cells #[.string nm, .slice ua q uc, .int .i64 y] 84)).heap.size, 0, none⟩) 0 0) 0 (([] : List UInt8).map byteV)) := Lib.hid (own_mono how hbA.size)
      have HRB := Lib.hid (Rw.below hrb (below_more (Below.refl _ _) (.cells #[] 5)))
      have hlen : (r.f.b.take z).length = z := by rw [List.length_take]; have := HB.out; have := HQ.out; omega
      have HLEN := Lib.hid hlen
      have HSL : Hid (ByteSl ((w3.alloc (.cells #[.string nm, .slice ua q uc, .int .i64 y] 84)).alloc (.cells #[] 5)) ((w3.alloc (.cells #[.string nm, .slice ua q uc, .int .i64 y] 84)).alloc (.cells #[] 5)).heap.size (.slice ua z uc) (r.f.b.take z)) := Lib.hid (byteZ_sl (byteZ_cut HBY.out HB.out.1) (fun k hlt hX => (HBW.out.trans (hbB.mono HBW.out.size)).block k hlt) (HBW.out.trans (hbB.mono HBW.out.size)).size)
      have hs1 : ∀ W, (Instr.slice 40 (.slice ua q uc) none (some (.int .i64 (z : Int))) none).run Try.prog W = .ok (.slice ua z uc) W := fun W => by
        rw [run_slice_h W 40 ua q uc (by kernel_rfl) .i64 z (by have := HB.out; omega) (by have := HQUC.out; have := HB.out; omega), run_size1 (by kernel_rfl)]
        rcases ua with _ | ⟨b, o, _ | e⟩ <;> simp [Result.andThen, sliced, Addr.add]
      have HBB := Lib.hid hbB
      have hsz : (w3.alloc (.cells #[.string nm, .slice ua q uc, .int .i64 y] 84)).heap.size = w3.heap.size + 1 := by simp
      rw [hsz] at HOW
      clear hrb hbA hbB how hlen hgb
      rcases hways with ⟨hd0, hzy, hte⟩ | ⟨hd0, htm, hzy, hte⟩ | ⟨p, b, o, hd0, htm, hpa, hpc, hpb, hzp, hte⟩
      · have hd1 : ¬ (0 : Int) < (dz : Int) := by omega
        have HTE := Lib.hid hte
        subst hzy
        clear hd0 hte hzb hyb htb hMb
        go_wp2_with (first
          | (refine wpList_alloc_z rfl 84 rfl #[.string ⟨#[]⟩, .slice none 0 0, .int .i64 0] hzz ?_)
          | (refine wpList_store_mid rfl 84 (.tmp 8) (.tmp 33) rfl w3.heap.size 0 #[.string nm, .slice ua q uc, .int .i64 y] rfl rfl (Rw.there (Rw.alloc w3 _ _ (Nat.zero_le _)) 0 3 (Nat.le_refl _)) (by kernel_rfl) (by rfl) ?_)
          | (at_builtin; refine wpList_append_slg rfl (.tmp 61) (.tmp 68) 40 rfl w3.heap.size 5 i0 (.int .u8 0) Try.underlying40 hi hz0 hz1 hz2 rfl (.slice (some ⟨w3.heap.size + 1, 0, none⟩) 0 0) 0 _ (by simp [Act.eval]) HOW.out (.slice ua z uc) (r.f.b.take z) (by simp [Act.eval]) _ HSL.out (by have := HB.out; have := HLEN.out; omega) HBB.out.size ?_; intro v5 w5 ho5 hg5; obtain ⟨a5, c5, hv5, hx5⟩ := crash_row HCR.out HOQ.out HC1.out HBB.out HRB.out HLEN.out ho5 hg5 (by omega); subst hv5; obtain ⟨hx1, hx2, hx3, hx4, hx5⟩ := hx5; have HX1 := Lib.hid hx1; have HX2 := Lib.hid hx2; clear ho5 hg5 hx1 hx2)
          | fail)
        have HNK : Hid (qs.length ≤ 64) := Lib.hid (by have := HB.out; omega)
        have hb56 : Below w5.heap.size w5 (w5.alloc (.cells #[.string nm, .slice a5 z c5, .int .i64 z] 84)) := below_more (Below.refl _ _) _
        have hb56d : Below w5.heap.size w5 (w5.alloc (.cells #[.string nm, .slice a5 z c5, .int .i64 z] 84)).drew := below_draws hb56 ⟨1, rfl⟩
        have HB56 := Lib.hid hb56d
        have HOD : Hid ((w5.alloc (.cells #[.string nm, .slice a5 z c5, .int .i64 z] 84)).drew.ownsRow 0 84 3 (.slice qa qs.length qc) qs.length (rowsF qs)) := Lib.hid (own_below (own_below HOQ.out HX1.out) hb56d)
        have HRD : Hid (∀ (j : Nat) (u : Value), ([.string nm, .slice a5 z c5, .int .i64 z] : List Value)[j]? = some u → (w5.alloc (.cells #[.string nm, .slice a5 z c5, .int .i64 z] 84)).drew.cell? ((⟨w5.heap.size, 0, none⟩ : Addr).add j) = some u) := Lib.hid (fun j u hj => by
          have h2 := Rw.alloc w5 84 #[.string nm, .slice a5 z c5, .int .i64 z] (Nat.zero_le _)
          rw [Addr.add_mid, Nat.zero_add]
          exact Rw.cell h2 hj)
        have HNV : Hid (nameV r.f.name = .string nm) := Lib.hid (by unfold nameV; rw [HNM.out])
        clear hb56 hb56d
        go_region_law (refine step_append_at rfl (.tmp 74) (.tmp 81) 48 rfl 0 84 j0 _ 3 48 Try.underlying48 hj hy0 hy1 hy2 rfl (by decide) (.slice qa qs.length qc) qs.length (rowsF qs) (by simp [Act.eval]) HOD.out ⟨w5.heap.size, 0, none⟩ 1 1 [.string nm, .slice a5 z c5, .int .i64 z] (by simp [Act.eval]) rfl HRD.out (fun u hu => by simp at hu; rcases hu with rfl | rfl | rfl <;> rfl) (by have := HNK.out; unfold maxLen; omega) (by have := HNK.out; omega) (Nat.zero_le _) ?_; intro v6 w6 ho6 hg6 hl6; obtain ⟨a6, c6, rfl⟩ := own_len ho6.out; have hadd := crash_add (y := z) HCR.out HF.out (by have := HZ.out; have := HY.out; omega) HX1.out HX2.out HB56.out (by rw [HNV.out]; exact ho6.out) hg6.out hl6.out; have HCA := Lib.hid hadd.1; have x6 : w6.cell? ⟨w.heap.size, 1, none⟩ = some (.slice qa qs.length qc) := hadd.2.1; have g6 : w6.frozen? ⟨w.heap.size, 1, none⟩ = false := hadd.2.2; clear hadd ho6 hg6 hl6)
        all_goals
          clear hx3 hx4 hx5 x6 g6
          go_wp2_with fail
          go_roundw
          case rel =>
            have h1 := HB.out
            have h2 := HTE.out
            refine ⟨k + 1, t2, by omega, by omega, by go_num, by rw [HTE.out], Lib.hid ?_⟩
            obtain ⟨rs', hr'⟩ := HCA.out
            rw [HT2.out]
            exact ⟨_, rs', hr'⟩
          case measure => have := HB.out; simp [intOf]; omega
      · have hd1 : (0 : Int) < (dz : Int) := by omega
        have htm1 : ¬ (t : Int) < (M : Int) := by omega
        have HTE := Lib.hid hte
        subst hzy
        clear hd0 htm hte hzb hyb hMb
        go_wp2_with (first
          | (refine wpList_alloc_z rfl 84 rfl #[.string ⟨#[]⟩, .slice none 0 0, .int .i64 0] hzz ?_)
          | (refine wpList_store_mid rfl 84 (.tmp 8) (.tmp 33) rfl w3.heap.size 0 #[.string nm, .slice ua q uc, .int .i64 y] rfl rfl (Rw.there (Rw.alloc w3 _ _ (Nat.zero_le _)) 0 3 (Nat.le_refl _)) (by kernel_rfl) (by rfl) ?_)
          | (at_builtin; refine wpList_append_slg rfl (.tmp 61) (.tmp 68) 40 rfl w3.heap.size 5 i0 (.int .u8 0) Try.underlying40 hi hz0 hz1 hz2 rfl (.slice (some ⟨w3.heap.size + 1, 0, none⟩) 0 0) 0 _ (by simp [Act.eval]) HOW.out (.slice ua z uc) (r.f.b.take z) (by simp [Act.eval]) _ HSL.out (by have := HB.out; have := HLEN.out; omega) HBB.out.size ?_; intro v5 w5 ho5 hg5; obtain ⟨a5, c5, hv5, hx5⟩ := crash_row HCR.out HOQ.out HC1.out HBB.out HRB.out HLEN.out ho5 hg5 (by omega); subst hv5; obtain ⟨hx1, hx2, hx3, hx4, hx5⟩ := hx5; have HX1 := Lib.hid hx1; have HX2 := Lib.hid hx2; clear ho5 hg5 hx1 hx2)
          | fail)
        have HNK : Hid (qs.length ≤ 64) := Lib.hid (by have := HB.out; omega)
        have hb56 : Below w5.heap.size w5 (w5.alloc (.cells #[.string nm, .slice a5 z c5, .int .i64 z] 84)) := below_more (Below.refl _ _) _
        have hb56d : Below w5.heap.size w5 (w5.alloc (.cells #[.string nm, .slice a5 z c5, .int .i64 z] 84)).drew := below_draws hb56 ⟨1, rfl⟩
        have HB56 := Lib.hid hb56d
        have HOD : Hid ((w5.alloc (.cells #[.string nm, .slice a5 z c5, .int .i64 z] 84)).drew.ownsRow 0 84 3 (.slice qa qs.length qc) qs.length (rowsF qs)) := Lib.hid (own_below (own_below HOQ.out HX1.out) hb56d)
        have HRD : Hid (∀ (j : Nat) (u : Value), ([.string nm, .slice a5 z c5, .int .i64 z] : List Value)[j]? = some u → (w5.alloc (.cells #[.string nm, .slice a5 z c5, .int .i64 z] 84)).drew.cell? ((⟨w5.heap.size, 0, none⟩ : Addr).add j) = some u) := Lib.hid (fun j u hj => by
          have h2 := Rw.alloc w5 84 #[.string nm, .slice a5 z c5, .int .i64 z] (Nat.zero_le _)
          rw [Addr.add_mid, Nat.zero_add]
          exact Rw.cell h2 hj)
        have HNV : Hid (nameV r.f.name = .string nm) := Lib.hid (by unfold nameV; rw [HNM.out])
        clear hb56 hb56d
        go_region_law (refine step_append_at rfl (.tmp 74) (.tmp 81) 48 rfl 0 84 j0 _ 3 48 Try.underlying48 hj hy0 hy1 hy2 rfl (by decide) (.slice qa qs.length qc) qs.length (rowsF qs) (by simp [Act.eval]) HOD.out ⟨w5.heap.size, 0, none⟩ 1 1 [.string nm, .slice a5 z c5, .int .i64 z] (by simp [Act.eval]) rfl HRD.out (fun u hu => by simp at hu; rcases hu with rfl | rfl | rfl <;> rfl) (by have := HNK.out; unfold maxLen; omega) (by have := HNK.out; omega) (Nat.zero_le _) ?_; intro v6 w6 ho6 hg6 hl6; obtain ⟨a6, c6, rfl⟩ := own_len ho6.out; have hadd := crash_add (y := z) HCR.out HF.out (by have := HZ.out; have := HY.out; omega) HX1.out HX2.out HB56.out (by rw [HNV.out]; exact ho6.out) hg6.out hl6.out; have HCA := Lib.hid hadd.1; have x6 : w6.cell? ⟨w.heap.size, 1, none⟩ = some (.slice qa qs.length qc) := hadd.2.1; have g6 : w6.frozen? ⟨w.heap.size, 1, none⟩ = false := hadd.2.2; clear hadd ho6 hg6 hl6)
        all_goals
          clear hx3 hx4 hx5 x6 g6
          go_wp2_with fail
          go_roundw
          case rel =>
            have h1 := HB.out
            have h2 := HTE.out
            refine ⟨k + 1, t2, by omega, by omega, by go_num, by rw [HTE.out]; go_num, Lib.hid ?_⟩
            obtain ⟨rs', hr'⟩ := HCA.out
            rw [HT2.out]
            exact ⟨_, rs', hr'⟩
          case measure => have := HB.out; simp [intOf]; omega
      · have hd1 : (0 : Int) < (dz : Int) := by omega
        have htm1 : (t : Int) < (M : Int) := by omega
        have HTE := Lib.hid hte
        have hn9 : ((dz : Int) + 1 == 0) = false := by simp; omega
        have hlt9 := Int.tmod_lt_of_pos p (show (0 : Int) < (dz : Int) + 1 by omega)
        have hgt9 := Int.lt_tmod_of_pos p (show (0 : Int) < (dz : Int) + 1 by omega)
        have hdb : (dz : Int) ≤ 4194304 := by omega
        obtain ⟨hpb1, hpb2⟩ := hpb
        have hcp : (w3.alloc (.cells #[.string nm, .slice ua q uc, .int .i64 y] 84)).cell? ⟨b, o + t, none⟩ = some (.int .i64 p) := kcell_moreR (cell_same hpc (HBW.out.block b (block_of_cell hpc))) _
        subst hpa
        by_cases hneg : p.tmod ((dz : Int) + 1) < 0
        · rw [if_pos hneg] at hzp
          have hzT : (y : Int) + (p.tmod ((dz : Int) + 1) + (dz : Int) + 1) = (z : Int) := by omega
          clear hd0 htm hte hpc hzp hMb
          go_wp2_with (first
            | (refine wpList_alloc_z rfl 84 rfl #[.string ⟨#[]⟩, .slice none 0 0, .int .i64 0] hzz ?_)
            | (refine wpList_store_mid rfl 84 (.tmp 8) (.tmp 33) rfl w3.heap.size 0 #[.string nm, .slice ua q uc, .int .i64 y] rfl rfl (Rw.there (Rw.alloc w3 _ _ (Nat.zero_le _)) 0 3 (Nat.le_refl _)) (by kernel_rfl) (by rfl) ?_)
            | (at_builtin; refine wpList_append_slg rfl (.tmp 61) (.tmp 68) 40 rfl w3.heap.size 5 i0 (.int .u8 0) Try.underlying40 hi hz0 hz1 hz2 rfl (.slice (some ⟨w3.heap.size + 1, 0, none⟩) 0 0) 0 _ (by simp [Act.eval]) HOW.out (.slice ua z uc) (r.f.b.take z) (by simp [Act.eval]) _ HSL.out (by have := HB.out; have := HLEN.out; omega) HBB.out.size ?_; intro v5 w5 ho5 hg5; obtain ⟨a5, c5, hv5, hx5⟩ := crash_row HCR.out HOQ.out HC1.out HBB.out HRB.out HLEN.out ho5 hg5 (by omega); subst hv5; obtain ⟨hx1, hx2, hx3, hx4, hx5⟩ := hx5; have HX1 := Lib.hid hx1; have HX2 := Lib.hid hx2; clear ho5 hg5 hx1 hx2)
            | fail)
          have HNK : Hid (qs.length ≤ 64) := Lib.hid (by have := HB.out; omega)
          have hb56 : Below w5.heap.size w5 (w5.alloc (.cells #[.string nm, .slice a5 z c5, .int .i64 z] 84)) := below_more (Below.refl _ _) _
          have hb56d : Below w5.heap.size w5 (w5.alloc (.cells #[.string nm, .slice a5 z c5, .int .i64 z] 84)).drew := below_draws hb56 ⟨1, rfl⟩
          have HB56 := Lib.hid hb56d
          have HOD : Hid ((w5.alloc (.cells #[.string nm, .slice a5 z c5, .int .i64 z] 84)).drew.ownsRow 0 84 3 (.slice qa qs.length qc) qs.length (rowsF qs)) := Lib.hid (own_below (own_below HOQ.out HX1.out) hb56d)
          have HRD : Hid (∀ (j : Nat) (u : Value), ([.string nm, .slice a5 z c5, .int .i64 z] : List Value)[j]? = some u → (w5.alloc (.cells #[.string nm, .slice a5 z c5, .int .i64 z] 84)).drew.cell? ((⟨w5.heap.size, 0, none⟩ : Addr).add j) = some u) := Lib.hid (fun j u hj => by
            have h2 := Rw.alloc w5 84 #[.string nm, .slice a5 z c5, .int .i64 z] (Nat.zero_le _)
            rw [Addr.add_mid, Nat.zero_add]
            exact Rw.cell h2 hj)
          have HNV : Hid (nameV r.f.name = .string nm) := Lib.hid (by unfold nameV; rw [HNM.out])
          clear hb56 hb56d
          go_region_law (refine step_append_at rfl (.tmp 74) (.tmp 81) 48 rfl 0 84 j0 _ 3 48 Try.underlying48 hj hy0 hy1 hy2 rfl (by decide) (.slice qa qs.length qc) qs.length (rowsF qs) (by simp [Act.eval]) HOD.out ⟨w5.heap.size, 0, none⟩ 1 1 [.string nm, .slice a5 z c5, .int .i64 z] (by simp [Act.eval]) rfl HRD.out (fun u hu => by simp at hu; rcases hu with rfl | rfl | rfl <;> rfl) (by have := HNK.out; unfold maxLen; omega) (by have := HNK.out; omega) (Nat.zero_le _) ?_; intro v6 w6 ho6 hg6 hl6; obtain ⟨a6, c6, rfl⟩ := own_len ho6.out; have hadd := crash_add (y := z) HCR.out HF.out (by have := HZ.out; have := HY.out; omega) HX1.out HX2.out HB56.out (by rw [HNV.out]; exact ho6.out) hg6.out hl6.out; have HCA := Lib.hid hadd.1; have x6 : w6.cell? ⟨w.heap.size, 1, none⟩ = some (.slice qa qs.length qc) := hadd.2.1; have g6 : w6.frozen? ⟨w.heap.size, 1, none⟩ = false := hadd.2.2; clear hadd ho6 hg6 hl6)
          all_goals
            clear hx3 hx4 hx5 x6 g6
            go_wp2_with fail
            go_roundw
            case rel =>
              have h1 := HB.out
              have h2 := HTE.out
              refine ⟨k + 1, t2, by omega, by omega, by go_num, by rw [HTE.out]; go_num, Lib.hid ?_⟩
              obtain ⟨rs', hr'⟩ := HCA.out
              rw [HT2.out]
              exact ⟨_, rs', hr'⟩
            case measure => have := HB.out; simp [intOf]; omega
        · rw [if_neg hneg] at hzp
          have hzT : (y : Int) + p.tmod ((dz : Int) + 1) = (z : Int) := by omega
          clear hd0 htm hte hpc hzp hMb
          go_wp2_with (first
            | (refine wpList_alloc_z rfl 84 rfl #[.string ⟨#[]⟩, .slice none 0 0, .int .i64 0] hzz ?_)
            | (refine wpList_store_mid rfl 84 (.tmp 8) (.tmp 33) rfl w3.heap.size 0 #[.string nm, .slice ua q uc, .int .i64 y] rfl rfl (Rw.there (Rw.alloc w3 _ _ (Nat.zero_le _)) 0 3 (Nat.le_refl _)) (by kernel_rfl) (by rfl) ?_)
            | (at_builtin; refine wpList_append_slg rfl (.tmp 61) (.tmp 68) 40 rfl w3.heap.size 5 i0 (.int .u8 0) Try.underlying40 hi hz0 hz1 hz2 rfl (.slice (some ⟨w3.heap.size + 1, 0, none⟩) 0 0) 0 _ (by simp [Act.eval]) HOW.out (.slice ua z uc) (r.f.b.take z) (by simp [Act.eval]) _ HSL.out (by have := HB.out; have := HLEN.out; omega) HBB.out.size ?_; intro v5 w5 ho5 hg5; obtain ⟨a5, c5, hv5, hx5⟩ := crash_row HCR.out HOQ.out HC1.out HBB.out HRB.out HLEN.out ho5 hg5 (by omega); subst hv5; obtain ⟨hx1, hx2, hx3, hx4, hx5⟩ := hx5; have HX1 := Lib.hid hx1; have HX2 := Lib.hid hx2; clear ho5 hg5 hx1 hx2)
            | fail)
          have HNK : Hid (qs.length ≤ 64) := Lib.hid (by have := HB.out; omega)
          have hb56 : Below w5.heap.size w5 (w5.alloc (.cells #[.string nm, .slice a5 z c5, .int .i64 z] 84)) := below_more (Below.refl _ _) _
          have hb56d : Below w5.heap.size w5 (w5.alloc (.cells #[.string nm, .slice a5 z c5, .int .i64 z] 84)).drew := below_draws hb56 ⟨1, rfl⟩
          have HB56 := Lib.hid hb56d
          have HOD : Hid ((w5.alloc (.cells #[.string nm, .slice a5 z c5, .int .i64 z] 84)).drew.ownsRow 0 84 3 (.slice qa qs.length qc) qs.length (rowsF qs)) := Lib.hid (own_below (own_below HOQ.out HX1.out) hb56d)
          have HRD : Hid (∀ (j : Nat) (u : Value), ([.string nm, .slice a5 z c5, .int .i64 z] : List Value)[j]? = some u → (w5.alloc (.cells #[.string nm, .slice a5 z c5, .int .i64 z] 84)).drew.cell? ((⟨w5.heap.size, 0, none⟩ : Addr).add j) = some u) := Lib.hid (fun j u hj => by
            have h2 := Rw.alloc w5 84 #[.string nm, .slice a5 z c5, .int .i64 z] (Nat.zero_le _)
            rw [Addr.add_mid, Nat.zero_add]
            exact Rw.cell h2 hj)
          have HNV : Hid (nameV r.f.name = .string nm) := Lib.hid (by unfold nameV; rw [HNM.out])
          clear hb56 hb56d
          go_region_law (refine step_append_at rfl (.tmp 74) (.tmp 81) 48 rfl 0 84 j0 _ 3 48 Try.underlying48 hj hy0 hy1 hy2 rfl (by decide) (.slice qa qs.length qc) qs.length (rowsF qs) (by simp [Act.eval]) HOD.out ⟨w5.heap.size, 0, none⟩ 1 1 [.string nm, .slice a5 z c5, .int .i64 z] (by simp [Act.eval]) rfl HRD.out (fun u hu => by simp at hu; rcases hu with rfl | rfl | rfl <;> rfl) (by have := HNK.out; unfold maxLen; omega) (by have := HNK.out; omega) (Nat.zero_le _) ?_; intro v6 w6 ho6 hg6 hl6; obtain ⟨a6, c6, rfl⟩ := own_len ho6.out; have hadd := crash_add (y := z) HCR.out HF.out (by have := HZ.out; have := HY.out; omega) HX1.out HX2.out HB56.out (by rw [HNV.out]; exact ho6.out) hg6.out hl6.out; have HCA := Lib.hid hadd.1; have x6 : w6.cell? ⟨w.heap.size, 1, none⟩ = some (.slice qa qs.length qc) := hadd.2.1; have g6 : w6.frozen? ⟨w.heap.size, 1, none⟩ = false := hadd.2.2; clear hadd ho6 hg6 hl6)
          all_goals
            clear hx3 hx4 hx5 x6 g6
            go_wp2_with fail
            go_roundw
            case rel =>
              have h1 := HB.out
              have h2 := HTE.out
              refine ⟨k + 1, t2, by omega, by omega, by go_num, by rw [HTE.out]; go_num, Lib.hid ?_⟩
              obtain ⟨rs', hr'⟩ := HCA.out
              rw [HT2.out]
              exact ⟨_, rs', hr'⟩
            case measure => have := HB.out; simp [intOf]; omega
    · have hyk : ¬ (k : Int) < (n : Int) := by omega
      have HKN : Hid (k = n) := Lib.hid (by omega)
      have HCR := Lib.hid hcr
      clear hlt hk ht hcr hbw
      go_wp2_with fail
      go_ret
      obtain ⟨X2, h1, h2, h3⟩ := HCR.out
      refine ⟨rfl, ⟨⟨room, (crashM C ps).fs, 0, -1⟩, ⟨rfl, HRM.out, rfl, fun _ => (by show (-1 : Int) < 0; decide), fun h => (by cases h)⟩, L, qs, X2, ?_⟩, h3⟩
      have e : qs.map (·.f) = crashL C.fs ps := by
        have h4 := h2.1
        rw [HKN.out, HN.out, List.drop_of_length_le (by rw [← HFS.out, List.length_map]; exact Nat.le_refl _)] at h4
        have h5 : crashL [] (ps.drop t) = [] := by cases ps.drop t <;> rfl
        rw [h5, List.append_nil] at h4
        exact h4.symm
      rw [e] at h1
      exact h1

end Go.Proofs.Ytfiocghgjjandaa
