/- Contracts: the code's Crash. -/
import Derived.BigRegion
import Derived.Deep.RegionHeld3
import Derived.Maps.OwnSet
import Derived.Test.YtfiocghgjjandaaProg
import Derived.Test.YtfiocghgjjandaaKit
import Derived.Test.YtfiocghgjjandaaRow
import Derived.Test.YtfiocghgjjandaaRow2
import Derived.Test.YtfiocghgjjandaaCod5
import Derived.Test.YtfiocghgjjandaaCod7
import Derived.Test.YtfiocghgjjandaaFrm4
import Derived.Test.YtfiocghgjjandaaFp
import Derived.Test.YtfiocghgjjandaaDsk0
import Derived.Test.YtfiocghgjjandaaDsk1
import Derived.Test.YtfiocghgjjandaaDsk2
import Derived.Test.YtfiocghgjjandaaDsk6
import Derived.Test.YtfiocghgjjandaaDsk7
import Derived.Test.YtfiocghgjjandaaDsk8
import Derived.Test.YtfiocghgjjandaaDsk9
import Derived.Test.YtfiocghgjjandaaDsk11
import Derived.Test.YtfiocghgjjandaaDsk13
namespace Go.Proofs.Ytfiocghgjjandaa
open Go.RowKit Go.Proofs Go.Maps

theorem findR_at {rs : List Rec} (hs : SortM (rs.map (·.f))) {x : Rec} (hx : x ∈ rs) : findR rs x.f.name = some x := by
  cases hq : findR rs x.f.name with
  | none => exact absurd rfl (findR_none hq x hx)
  | some y =>
    obtain ⟨hy, hn⟩ := findR_some hq
    rw [names_eq hs hx hy hn.symm]

def RangeI (ps : List Int) : Prop := (∀ p ∈ ps, -9223372036854775808 ≤ p ∧ p ≤ 9223372036854775807) ∧ ps.length < 9223372036854775807

theorem or3 {a b c p : Prop} (h : a ∨ b ∨ c) (f : a → p) (g : b → p) (k : c → p) : p := h.elim f (fun h => h.elim g k)

/-- Picks as they came. -/
def PickAt (w : World) (pc : Value) (ps : List Int) : Prop :=
  ∃ a c, pc = .slice a ps.length c ∧ ps.length ≤ c ∧ (ps = [] ∨ ∃ b o, a = some ⟨b, o, none⟩ ∧ ∀ (j : Nat) (p : Int), ps[j]? = some p → w.cell? ⟨b, o + j, none⟩ = some (.int .i64 p))

theorem pickAt_tail {w : World} {b o c m : Nat} {p : Int} {q : List Int} (h : PickAt w (.slice (some ⟨b, o, none⟩) m c) (p :: q)) : PickAt w (.slice (if c = 1 then some ⟨b, o, none⟩ else some ⟨b, o + 1, none⟩) (m - 1) (c - 1)) q := by
  obtain ⟨a2, c2, hv, hc, hcl⟩ := h
  injection hv with h1 h2 h3
  subst h1 h3
  obtain ⟨b2, o2, ha, hcl⟩ := hcl.resolve_left (by simp)
  cases ha
  rw [List.length_cons] at h2 hc
  by_cases h1 : c = 1
  · rw [if_pos h1]
    have hq : q = [] := List.eq_nil_of_length_eq_zero (by omega)
    exact ⟨_, _, by rw [show m - 1 = q.length by omega], by omega, .inl hq⟩
  · rw [if_neg h1]
    refine ⟨_, _, by rw [show m - 1 = q.length by omega], by omega, .inr ⟨b, o + 1, rfl, fun j y hj => ?_⟩⟩
    have := hcl (j + 1) y (by simpa using hj)
    rw [Nat.add_assoc, Nat.add_comm 1 j]
    exact this

def CrAt (w wr : World) (ga : Nat) (D : CodM) (ps0 : List Int) (k : Nat) (pc : Value) (ps : List Int) (v2 : Value) : Prop :=
  PickAt w pc ps ∧ RangeI ps ∧ Kept (fun _ => False) w wr ∧ wr.ownsRow w.heap.size 9 1 v2 D.fs.length (D.fs.map (fun f => encStr f.name)) ∧ ∃ done, CrashI D.fs ps0 k ps done ∧ NewAt w wr ga D.room done ∧ done.length = k

set_option maxHeartbeats 4000000 in
theorem dcrash_any (F : Nat → Prop) (g : Nat) (D : CodM) (ps : List Int) (pv : Value) (w : World) (h : CodAt w F g D) (hok : CodOk D) (hp : PickAt w pv ps) (hri : RangeI ps) (hnl : ∀ f ∈ D.fs, f.name.length ≤ maxLen) :
    Calls Try.prog 12 #[.pointer (some ⟨g, 0, none⟩), pv] w fun e w' => e = .returned (.pointer (some ⟨w.heap.size, 0, none⟩)) ∧ CodAt w' (fun k => w.heap.size ≤ k) w.heap.size (crashM D ps) ∧ Below w.heap.size w w' := by
  obtain ⟨hF, mv, rs, hr, hfs, hD⟩ := h
  have hgl := Rw.size hr
  have c0 : (w.alloc (.cells #[.int .i64 0, .map none, .int .i64 0, .bool false, .int .i64 0] 47)).cell? ⟨g, 0, none⟩ = some (.int .i64 D.room) := (Rw.more hr _).cell rfl
  obtain ⟨w2, hw2⟩ : ∃ w2, w2 = w.alloc (.cells #[.int .i64 D.room, .map none, .int .i64 0, .bool false, .int .i64 0] 47) := ⟨_, rfl⟩
  obtain ⟨ga, hga⟩ : ∃ ga, ga = w.heap.size := ⟨_, rfl⟩
  have hk2 : Kept (fun _ => False) w w2 := by rw [hw2]; exact kept_alloc (kept_refl _ _) _
  have hr2 : Rw w2 0 ga 47 [.int .i64 D.room, .map none, .int .i64 0, .bool false, .int .i64 0] := by rw [hw2, hga]; exact Rw.alloc w _ _ (Nat.zero_le _)
  have hrd2 := rw_kept hr hk2 (fun h => h)
  have hfs2 := filesAt_keep hfs hk2 (fun _ hk => hk.elim)
  have hnm := dnames_any F g D w2 ⟨hF, mv, rs, hrd2, hfs2, hD⟩ hok.2.2.2.2
  obtain ⟨n, hn⟩ : ∃ n, n = D.fs.length := ⟨_, rfl⟩
  have hnb : (n : Int) < 1099511627776 := by have := hok.2.2.2.2; omega
  have HNM := Lib.hid hnm
  have HNB := Lib.hid hnb
  have HR2 := Lib.hid hr2
  have HK2 := Lib.hid hk2
  have HGA := Lib.hid hga
  have HW2 := Lib.hid hw2
  have HD := Lib.hid hD
  have HOK := Lib.hid hok
  have HNN := Lib.hid hn
  have HR := Lib.hid hr
  have HFS := Lib.hid hfs
  have HNL := Lib.hid hnl
  have HP := Lib.hid hp
  have HRI := Lib.hid hri
  have HG1 : Hid (¬ g = ga) := Lib.hid (by omega)
  clear hw2 hga hnb hnm hr2 hk2 hD hok hr hfs hnl hp hri hF hrd2 hfs2 hgl hn
  go_enter Try.func12, Try.ntmps12
  go_wp2_with (refine wpList_alloc_z rfl 47 rfl #[.int .i64 0, .map none, .int .i64 0, .bool false, .int .i64 0] (zero_cells Try.infoDisk) ?_)
  rw [← HGA.out, ← HW2.out]
  refine (HNM.out).mono ?_
  rintro e w3 ⟨⟨v2, rfl, hown3⟩, hb3⟩
  obtain ⟨a2, q2, rfl⟩ := own_len hown3
  have HSTART : Hid (CrAt w w3 ga D ps 0 pv ps (.slice a2 D.fs.length q2)) := Lib.hid
    ⟨HP.out, HRI.out, kept_trans HK2.out (kept_below hb3), own_mono hown3 HK2.out.size, [], ⟨rfl, rfl⟩, ⟨.map none, [], Rw.below HR2.out hb3, ⟨.inl ⟨rfl, rfl⟩, fun b hb => by simp at hb, fun x hx => by simp at hx, List.Pairwise.nil, List.Pairwise.nil⟩, rfl⟩, rfl⟩
  have hnn := HNN.out
  rw [← hnn] at HSTART
  rw [← hnn]
  clear hown3 hb3 HNM HR2 HK2 c0 hnn
  go_wp2_with fail
  go_loopw [1, 24] (fun pc i wr => ∃ (k : Nat) (ps' : List Int), k ≤ n ∧ i = .int .i64 k ∧ Hid (CrAt w wr ga D ps k pc ps' (.slice a2 n q2))) (fun _ i _ => n - (intOf i).toNat)
  case atStart => exact ⟨0, ps, Nat.zero_le _, rfl, HSTART⟩
  case round =>
    obtain ⟨k, ps', hk, rfl, HC⟩ := hrel
    obtain ⟨wr2, hwr⟩ : ∃ w1 : World, w1 = wr := ⟨_, rfl⟩
    subst hwr
    clear HSTART
    obtain ⟨hpc, hri', hk3, hown, done, hci, hna, hdl⟩ := HC.out
    have hpcs := hpc
    obtain ⟨pa, pq, rfl, hpq, hpcl⟩ := hpcs
    obtain ⟨m, hm⟩ : ∃ m, m = ps'.length := ⟨_, rfl⟩
    by_cases hlt : k < n
    · obtain ⟨f, hf⟩ : ∃ f, D.fs[k]? = some f := ⟨_, List.getElem?_eq_getElem (by rw [← HNN.out]; exact hlt)⟩
      obtain ⟨b, o, c, hv, hcells⟩ := SliceAt.at (SliceAt.own hown) (by intro e; rw [List.map_eq_nil_iff] at e; rw [e] at hf; simp at hf)
      injection hv with h1 h2 h3
      subst h1
      have hcell := hcells k _ (by rw [List.getElem?_map, hf]; rfl)
      obtain ⟨sv, hsv⟩ : ∃ sv : ByteArray, sv = ⟨f.name.toArray⟩ := ⟨_, rfl⟩
      have hsl : sv.data.toList = f.name := by rw [hsv]
      have hcell2 : wr2.cell? ⟨b, o + k, none⟩ = some (.string sv) := by rw [hsv]; exact hcell
      have hfsr := filesAt_keep HFS.out hk3 (fun _ hk => hk.elim)
      obtain ⟨x, hxk⟩ : ∃ x, rs[k]? = some x := ⟨_, List.getElem?_eq_getElem (by rw [show rs.length = D.fs.length by have := congrArg List.length HD.out; simpa using this, ← HNN.out]; exact hlt)⟩
      have hxf : x.f = f := by
        have := hf
        rw [← HD.out, List.getElem?_map, hxk] at this
        exact Option.some.inj this
      have hxm := List.mem_of_getElem? hxk
      have hsvl : sv.size ≤ maxLen := by rw [← size_data, hsl]; exact HNL.out f (List.mem_of_getElem? hf)
      have hlook := look_any hfsr.1 sv hsvl
      rw [hsl, ← hxf, findR_at hfsr.2.2.2.2 hxm] at hlook
      simp only [recP] at hlook
      obtain ⟨_, hrx, hox, hxs⟩ := hfsr.2.2.1 x hxm
      obtain ⟨ax, qx, hu⟩ := own_len hox.1
      have cx0 := hrx.cell (j := 0) rfl
      have cx1 := hrx.cell (j := 1) rfl
      rw [hu] at cx0
      have c1 : wr2.cell? ⟨g, 1, none⟩ = some mv := (rw_kept HR.out hk3 (fun h => h)).cell rfl
      obtain ⟨N, hN⟩ : ∃ N, N = x.f.b.length := ⟨_, rfl⟩
      obtain ⟨S, hS⟩ : ∃ S, S = x.f.syn := ⟨_, rfl⟩
      rw [← hN] at cx0 hxs
      rw [← hS] at cx1 hxs
      have hNb : N < 1099511627776 := by
        have h1 := sizeM_mem (List.mem_map.2 ⟨x, hxm, rfl⟩ : x.f ∈ rs.map (·.f))
        rw [HD.out] at h1
        have h2 := HOK.out.1
        have h3 := HOK.out.2.1
        omega
      obtain ⟨d, hd⟩ : ∃ d, d = N - S := ⟨_, rfl⟩
      have hun := fun (W : World) (hb : Below wr2.heap.size wr2 W) => unsynced_any x.g ax N qx S W ((hb.cell (p := ⟨x.g, 0, none⟩) (block_of_cell cx0)).trans cx0) ((hb.cell (p := ⟨x.g, 1, none⟩) (block_of_cell cx1)).trans cx1) hNb hxs
      have hfi := fun (W : World) (L : Nat) (hb : Below wr2.heap.size wr2 W) (hL : L ≤ N) => first_any x.g x.f.b x.u L W (Rw.below hrx hb |>.cell (j := 0) rfl) (own_below hox.1 hb) (by rw [← hN]; exact hL) (by omega)
      have hdl2 : done.length < 1099511627776 := by rw [hdl]; have := HNB.out; omega
      have hlim : ∀ q, S + q ≤ N → (lastM x.f q).syn ≤ (lastM x.f q).b.length := fun q hq => by
        show x.f.syn + q ≤ (x.f.b.take (x.f.syn + q)).length
        rw [List.length_take, ← hN, ← hS]
        omega
      have hpu := fun (W0 W1 : World) (q : Nat) (v : Value) (hb : Below wr2.heap.size wr2 W0) (hb2 : Below W0.heap.size W0 W1) (hq : S + q ≤ N) (ho : W1.ownsRow W0.heap.size 5 1 v (lastM x.f q).b.length ((lastM x.f q).b.map byteV)) =>
        new_put (newAt_keep hna hb) hb2 (by rw [HGA.out]; exact Nat.le_refl _) (kept_trans hk3 (kept_below hb)) ho (hlim q hq) (show sv.data.toList = (lastM x.f q).name by rw [hsl, ← hxf]; rfl) hsvl hdl2
      have hnext : ∀ (q : Nat) (pc' : Value) (ps'' : List Int) (W0 W2 : World), Below wr2.heap.size wr2 W0 → crashL (f :: D.fs.drop (k + 1)) ps' = lastM f q :: crashL (D.fs.drop (k + 1)) ps'' → PickAt w pc' ps'' → RangeI ps'' → NewAt w W2 ga D.room (putM (lastM x.f q) done) → Kept (fun _ => False) w W2 →
          (∀ (u : Value) (n : Nat) (xs : List Value), W0.ownsRow w.heap.size 9 1 u n xs → W2.ownsRow w.heap.size 9 1 u n xs) → CrAt w W2 ga D ps (k + 1) pc' ps'' (.slice (some ⟨b, o, none⟩) n q2) := fun q pc' ps'' W0 W2 hb hcr hp2 hr2 hn2 hk2 ho2 => by
        refine ⟨hp2, hr2, hk2, ho2 _ _ _ (own_below hown hb), done ++ [lastM f q], crashI_next hci hf hcr, ?_, by rw [List.length_append, hdl]; rfl⟩
        rw [hxf, crashI_put hci (by rw [← HD.out]; exact hfsr.2.2.2.2) hf] at hn2
        exact hn2
      have hy : (k : Int) < (n : Int) := by omega
      have HKL := Lib.hid hlt
      have HUN := Lib.hid hun
      have HFI := Lib.hid hfi
      have HPU := Lib.hid hpu
      have HNX := Lib.hid hnext
      have HXF := Lib.hid hxf
      have HPC := Lib.hid hpc
      have HPCL := Lib.hid hpcl
      have HRI2 := Lib.hid hri'
      have HM := Lib.hid hm
      have HDD := Lib.hid hd
      have HNE := Lib.hid hN
      have HSE := Lib.hid hS
      have HSN := Lib.hid hxs
      have HNBB := Lib.hid hNb
      have HKW := Lib.hid (Below.refl wr2.heap.size wr2)
      have HK3 := Lib.hid (below_kept hk3)
      have hcase : (d = 0) ∨ (0 < d ∧ ps' = []) ∨ (0 < d ∧ ∃ p q', ps' = p :: q') := by
        rcases Nat.eq_zero_or_pos d with h | h
        · exact .inl h
        · cases ps' with
          | nil => exact .inr (.inl ⟨h, rfl⟩)
          | cons p q' => exact .inr (.inr ⟨h, p, q', rfl⟩)
      clear HC hown hcells hcell h2 h3 hsv hfsr hxk hxm hrx hox hu hxs hNb hun hfi hpu hnext hdl2 hlim hci hna hdl hk3 hpc hpcl hri' hm hd hN hS hf hxf hlt hk hsl hsvl
      rw [← HDD.out] at HUN
      obtain ⟨dz, hdz⟩ : ∃ dz : Int, dz = (d : Int) := ⟨_, rfl⟩
      rw [← hdz] at HUN
      have HDZ := Lib.hid hdz
      clear hdz
      refine or3 hcase ?A ?B ?C
      case' A =>
        intro hd0
        have HCR : Hid (crashL (f :: D.fs.drop (k + 1)) ps' = lastM f 0 :: crashL (D.fs.drop (k + 1)) ps') := Lib.hid (crashL_skip (by
          rw [← HXF.out, ← HSE.out, ← HNE.out]
          have := HDD.out
          omega))
        rw [show dz = 0 by have := HDZ.out; omega] at HUN
        obtain ⟨q, hq⟩ : ∃ q, q = 0 := ⟨_, rfl⟩
        rw [← hq] at HCR
        obtain ⟨L, hL⟩ : ∃ L, L = S := ⟨_, rfl⟩
        rw [← hL] at cx1
        have HSQ : Hid (S + q ≤ N ∧ L = S + q) := Lib.hid ⟨by have := HSN.out; omega, by omega⟩
        have HPK := HPC
        have HRP := HRI2
        clear hd0 hcase hq hL HPCL
        go_wp2_with fail
        refine (HUN.out _ HKW.out).mono ?_
        rintro e w4 ⟨rfl, m4, rfl⟩
        have HB : Hid (Below wr2.heap.size wr2 (wr2.drewN m4)) := Lib.hid (below_draws (Below.refl _ _) ⟨m4, rfl⟩)
        clear hy hpq hcell2 hlook cx0
        go_wp2_with fail
      case' B =>
        rintro ⟨hd0, rfl⟩
        have HCR : Hid (crashL (f :: D.fs.drop (k + 1)) [] = lastM f 0 :: crashL (D.fs.drop (k + 1)) []) := Lib.hid crashL_none
        have hd1 : 0 < dz := by have := HDZ.out; omega
        obtain ⟨q, hq⟩ : ∃ q, q = 0 := ⟨_, rfl⟩
        rw [← hq] at HCR
        obtain ⟨L, hL⟩ : ∃ L, L = S := ⟨_, rfl⟩
        rw [← hL] at cx1
        have HSQ : Hid (S + q ≤ N ∧ L = S + q) := Lib.hid ⟨by have := HSN.out; omega, by omega⟩
        have HPK := HPC
        have HRP := HRI2
        clear hd0 hcase hq hL HPCL
        go_wp2_with fail
        refine (HUN.out _ HKW.out).mono ?_
        rintro e w4 ⟨rfl, m4, rfl⟩
        have HB : Hid (Below wr2.heap.size wr2 (wr2.drewN m4)) := Lib.hid (below_draws (Below.refl _ _) ⟨m4, rfl⟩)
        clear hy hpq hcell2 hlook cx0
        go_wp2_with fail
      case' C =>
        rintro ⟨hd0, p, q', rfl⟩
        have hd1 : 0 < dz := by have := HDZ.out; omega
        obtain ⟨pb, po, rfl, hpc0⟩ := HPCL.out.resolve_left (by simp)
        have hcp : wr2.cell? ⟨pb, po, none⟩ = some (.int .i64 p) := (HK3.out.cell (p := ⟨pb, po, none⟩) (block_of_cell (hpc0 0 p rfl))).trans (hpc0 0 p rfl)
        obtain ⟨e1, he1⟩ : ∃ e1, e1 = d + 1 := ⟨_, rfl⟩
        have hde : dz + 1 = (e1 : Int) := by have := HDZ.out; omega
        have hpr := HRI2.out.1 p (by simp)
        have hdN : d < 1099511627776 := by have := HDD.out; have := HNBB.out; omega
        obtain ⟨r, hr⟩ : ∃ r : Nat, p % (e1 : Int) = r := ⟨(p % (e1 : Int)).toNat, by have := Int.emod_nonneg p (show (e1 : Int) ≠ 0 by omega); omega⟩
        have hrl : (r : Int) < e1 := by rw [← hr]; exact Int.emod_lt_of_pos p (by omega)
        have hmo := fun W => modulo_any p e1 W hpr ⟨by omega, by omega⟩
        rw [hr] at hmo
        have HCR : Hid (crashL (f :: D.fs.drop (k + 1)) (p :: q') = lastM f r :: crashL (D.fs.drop (k + 1)) q') := Lib.hid (by
          rw [crashL_take (by rw [← HXF.out, ← HSE.out, ← HNE.out]; have := HDD.out; omega)]
          have hq3 : f.b.length - f.syn + 1 = e1 := by rw [← HXF.out, ← HNE.out, ← HSE.out, ← HDD.out, he1]
          rw [hq3, hr, Int.toNat_natCast])
        obtain ⟨q, hq⟩ : ∃ q, q = r := ⟨_, rfl⟩
        rw [← hq] at HCR hmo
        obtain ⟨L, hL⟩ : ∃ L, L = S + q := ⟨_, rfl⟩
        have hsl : (S : Int) + (q : Int) = (L : Int) := by omega
        have HSQ : Hid (S + q ≤ N ∧ L = S + q) := Lib.hid ⟨by have := HDD.out; omega, hL⟩
        have hs1 : ∀ W, (Instr.slice 34 (.slice (some ⟨pb, po, none⟩) (q'.length + 1) pq) (some (.int .i64 1)) none none).run Try.prog W = .ok (.slice (if pq = 1 then some ⟨pb, po, none⟩ else some ⟨pb, po + 1, none⟩) q'.length (pq - 1)) W := fun W =>
          slice_from (by kernel_rfl) (by kernel_rfl) pb po (q'.length + 1) pq 1 (by omega) W
        have hpt := pickAt_tail HPC.out
        simp only [List.length_cons, Nat.add_sub_cancel] at hpt
        have hrt : RangeI q' := ⟨fun y hy => HRI2.out.1 y (by simp [hy]), by have := HRI2.out.2; rw [List.length_cons] at this; omega⟩
        obtain ⟨ad, had⟩ : ∃ ad, ad = (if pq = 1 then some (⟨pb, po, none⟩ : Addr) else some ⟨pb, po + 1, none⟩) := ⟨_, rfl⟩
        rw [← had] at hs1 hpt
        obtain ⟨q1, hq1⟩ : ∃ q1, q1 = pq - 1 := ⟨_, rfl⟩
        rw [← hq1] at hs1 hpt
        have HPK := Lib.hid hpt
        have HRP := Lib.hid hrt
        have hwe : IntKind.i64.wrap (e1 : Int) = e1 := by rw [IntKind.wrap_i64]; omega
        have hwl : IntKind.i64.wrap (L : Int) = L := by rw [IntKind.wrap_i64]; have := HNBB.out; have := HSQ.out; omega
        have HMO := Lib.hid hmo
        have HMO2 : Hid (∀ W, Calls Try.prog 41 #[.int .i64 p, .int .i64 (IntKind.i64.wrap (e1 : Int))] W fun e w' => e = .returned (.int .i64 q) ∧ w' = W) := Lib.hid (fun W => by rw [hwe]; exact hmo W)
        clear hd0 hcase hL hq hpc0 HPCL he1 hpr hdN hr hrl hmo hpt hrt had hq1
        have HUS : Hid (∀ W, (Below wr2.heap.size wr2 W ∧ W.cell? ⟨pb, po, none⟩ = some (.int .i64 p)) → Calls Try.prog 40 #[.pointer (some ⟨x.g, 0, none⟩)] W fun e w' => e = .returned (.int .i64 dz) ∧ (Below wr2.heap.size wr2 w' ∧ w'.cell? ⟨pb, po, none⟩ = some (.int .i64 p))) :=
          Lib.hid (fun W hW => (HUN.out W hW.1).mono (by
            rintro e w' ⟨rfl, m7, rfl⟩
            exact ⟨rfl, below_draws hW.1 ⟨m7, rfl⟩, by simpa using hW.2⟩))
        have HSD : Hid (∀ W, (Below wr2.heap.size wr2 W ∧ W.cell? ⟨pb, po, none⟩ = some (.int .i64 p)) → (Below wr2.heap.size wr2 W.drew ∧ W.drew.cell? ⟨pb, po, none⟩ = some (.int .i64 p))) :=
          Lib.hid (fun W hW => ⟨below_draws (w' := W.drewN 1) hW.1 ⟨1, rfl⟩, by simpa using hW.2⟩)
        have HS0 := Lib.hid (And.intro HKW.out hcp)
        clear hcp
        go_wp2_with fail
        refine (HUS.out _ HS0.out).mono ?_
        rintro e w4 ⟨rfl, hS4⟩
        have HS4 := Lib.hid (HSD.out w4 hS4)
        clear hy hpq hcell2 hlook cx0 hS4
        go_wp2_with fail
        go_region_held3 (fun W => Below wr2.heap.size wr2 W ∧ W.cell? ⟨pb, po, none⟩ = some (.int .i64 p))
          (first
            | exact HS4.out
            | assumption)
          (first
            | (go_at_call 40; refine (HUS.out _ (by assumption)).mono ?_; rintro e w7 ⟨rfl, hS7⟩)
            | (go_at_call 41; with_reducible refine (HMO.out _).mono ?_; rintro e w8 ⟨rfl, rfl⟩)
            | (go_at_call 41; with_reducible refine (HMO2.out _).mono ?_; rintro e w8 ⟨rfl, rfl⟩))
        have HB := Lib.hid hS7.1
        clear hS7
        go_wp2_with fail
      all_goals
        refine (HFI.out _ L HB.out (by have := HSQ.out; omega)).mono ?_
        rintro e w5 ⟨v5, rfl, ho5, hb5⟩
        obtain ⟨a5, q5, rfl⟩ := own_len ho5
        have hlb : (lastM x.f q).b = x.f.b.take L := by
          show x.f.b.take (x.f.syn + q) = _
          rw [HSQ.out.2, HSE.out]
        have hll : (x.f.b.take L).length = L := by rw [List.length_take, ← HNE.out]; have := HSQ.out; omega
        have hput := HPU.out _ w5 q (.slice a5 L q5) HB.out hb5 HSQ.out.1 (by rw [hlb, hll]; exact ho5)
        have hls : ((lastM x.f q).syn : Int) = (L : Int) := by
          show ((x.f.syn + q : Nat) : Int) = _
          rw [HSQ.out.2, HSE.out]
        rw [hls] at hput
        have HPUT := Lib.hid hput
        clear hput hls hlb hll ho5 hb5
        go_wp2_with fail
        refine (HPUT.out).mono ?_
        rintro e w6 ⟨rfl, hn6, hk6, ho6⟩
        have HNEW := Lib.hid (HNX.out q _ _ _ w6 HB.out HCR.out HPK.out HRP.out hn6 hk6 ho6)
        clear hn6 hk6 ho6
        have hkb : (k : Int) < 1099511627776 := by have := HKL.out; have := HNB.out; omega
        go_wp2_with fail
        go_roundw
        case rel => exact ⟨k + 1, _, by have := HKL.out; omega, by go_num, HNEW⟩
        case measure => have := HKL.out; simp [intOf]; omega
    · have hkn : k = D.fs.length := by have := HNN.out; omega
      have HV : Hid (CodAt wr2 (fun k => w.heap.size ≤ k) ga (crashM D ps) ∧ Below w.heap.size w wr2) := Lib.hid (by
        refine ⟨?_, below_kept hk3⟩
        obtain ⟨mv2, rs2, hr2, hfs2, hD2⟩ := hna
        have h1 := hci.1
        rw [hkn, List.drop_length, crashL, List.append_nil] at h1
        refine ⟨by rw [HGA.out]; exact Nat.le_refl _, mv2, rs2, hr2, hfs2, ?_⟩
        rw [hD2, ← h1]
        rfl)
      have hy : ¬ (k : Int) < (n : Int) := by omega
      clear hna hci hown hri' hpc hpcl hk3 HC hkn hlt hk hpq hm hdl
      go_wp2_with fail
      go_ret
      have h2 := HV.out
      rw [HGA.out] at h2 ⊢
      exact ⟨rfl, h2⟩

end Go.Proofs.Ytfiocghgjjandaa
