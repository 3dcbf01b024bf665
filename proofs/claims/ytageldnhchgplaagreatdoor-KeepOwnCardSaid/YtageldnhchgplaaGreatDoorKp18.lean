/- Contracts: keep: what a nil Keep tells; Hard. -/
import Derived.BigRegion
import Derived.Deep.RegionHeld3
import Derived.Deep.QuietTactic
import Derived.BigQuiet
import Derived.IntWalk
import Derived.Test.YtageldnhchgplaaGreatDoorProg
import Derived.Test.YtageldnhchgplaaGreatDoorKit
import Derived.Test.YtageldnhchgplaaGreatDoorRow
import Derived.Test.YtageldnhchgplaaGreatDoorRow2
import Derived.Test.YtageldnhchgplaaGreatDoorCod7
import Derived.Test.YtageldnhchgplaaGreatDoorFrm3
import Derived.Test.YtageldnhchgplaaGreatDoorFp
import Derived.Test.YtageldnhchgplaaGreatDoorDsk1
import Derived.Test.YtageldnhchgplaaGreatDoorDsk6
import Derived.Test.YtageldnhchgplaaGreatDoorDsk17
import Derived.Test.YtageldnhchgplaaGreatDoorNet0
import Derived.Test.YtageldnhchgplaaGreatDoorKp0
import Derived.Test.YtageldnhchgplaaGreatDoorKp5
import Derived.Test.YtageldnhchgplaaGreatDoorKp6
import Derived.Test.YtageldnhchgplaaGreatDoorKp10
import Derived.Test.YtageldnhchgplaaGreatDoorKp14
namespace Go.Proofs.YtageldnhchgplaaGreatDoor
open Go.RowKit Go.Proofs

theorem Tryz.sizeHard : (Tryz.prog.info? 41).map (·.size) = some 7 := by kernel_rfl

theorem hd_one (t q ix tm : Int) (ma la : Option Addr) (mn mc ln lc : Nat) (sd : ByteArray) : (#[Value.int .i64 t, .int .i64 q, .int .i64 ix, .int .i64 tm, .slice ma mn mc, .string sd, .slice la ln lc].all (·.oneCell')) = true := by simp [Value.oneCell']

theorem ownE_store {W : World} {b base g : Nat} {e2 : TypeId} {v : Value} {rs : List RecE} {cs : List Value} (h : OwnE W base v rs) (hr : Rw W b g e2 cs) (he : 32 ≠ e2) (hi : 3 ≠ e2) (j : Nat) (u : Value) : OwnE (W.setCell ⟨g, j, none⟩ u) base v rs :=
  ⟨own_store h.1 hr he j u, fun r hm => ⟨own_store (h.2 r hm).1 hr hi j u, (h.2 r hm).2⟩⟩

theorem ownE_stores {W : World} {b base g : Nat} {e2 : TypeId} {v : Value} {rs : List RecE} {cs : List Value} (h : OwnE W base v rs) (hr : Rw W b g e2 cs) (he : 32 ≠ e2) (hi : 3 ≠ e2) (o : Nat) (ys : List Value) : OwnE (W.setCells g o ys) base v rs :=
  ⟨own_stores h.1 hr he o ys, fun r hm => ⟨own_stores (h.2 r hm).1 hr hi o ys, (h.2 r hm).2⟩⟩

set_option maxRecDepth 100000 in
set_option maxHeartbeats 2000000 in
theorem khard_any {w : World} {kp : Value} {t q ix tm lz : Int} {ma la : Option Addr} {mc lc : Nat} {sd : ByteArray} {ms : List Int} {es : List EntM}
    (hn : ∀ W, Below w.heap.size w W → Calls Tryz.prog 17 #[kp] W fun e w' => e = .returned (.agg #[.int .i64 t, .int .i64 q, .int .i64 ix, .int .i64 tm, .slice ma ms.length mc, .string sd, .slice la es.length lc, .int .i64 lz]) ∧ Below W.heap.size W w')
    (hms : IntsAt w (.slice ma ms.length mc) ms) (hes : EntsAt w (.slice la es.length lc) es) (hl : es.length ≤ 1000000) :
    Calls Tryz.prog 11 #[kp] w fun e w' => ∃ a c a2 c2, ∃ ns : List RecE, e = .returned (.agg #[.int .i64 t, .int .i64 q, .int .i64 ix, .int .i64 tm, .slice a2 ms.length c2, .string sd, .slice a es.length c]) ∧ ns.map (·.e) = es ∧ OwnE w' 0 (.slice a es.length c) ns ∧ Below w.heap.size w w' ∧ (∀ k, (Value.slice a es.length c).ownBlock = some k → w.heap.size ≤ k) ∧ ∀ r ∈ ns, ∀ k, r.u.ownBlock = some k → w.heap.size ≤ k := by
  have HN := Lib.hid hn
  have HMS := Lib.hid hms
  have HES := Lib.hid hes
  have HL := Lib.hid hl
  obtain ⟨n, hnn⟩ : ∃ n, n = es.length := ⟨_, rfl⟩
  obtain ⟨m, hmm⟩ : ∃ m, m = ms.length := ⟨_, rfl⟩
  rw [← hnn, ← hmm] at HN
  rw [← hnn] at HES ⊢
  rw [← hmm] at HMS ⊢
  have HNN := Lib.hid hnn
  have HMM := Lib.hid hmm
  clear hn hms hes hl hnn hmm
  have hfl : ∀ W, (Instr.field 53 (.agg #[.int .i64 t, .int .i64 q, .int .i64 ix, .int .i64 tm, .slice ma m mc, .string sd, .slice la n lc, .int .i64 lz]) 0).run Tryz.prog W = .ok (.agg #[.int .i64 t, .int .i64 q, .int .i64 ix, .int .i64 tm, .slice ma m mc, .string sd, .slice la n lc]) W := fun W => by kernel_rfl
  go_enter Tryz.func11, Tryz.ntmps11
  go_wp2_with fail
  refine (HN.out _ (below_more (Below.refl _ w) _)).mono ?_
  rintro e W1 ⟨rfl, hb1⟩
  have hR1 := Rw.below (Rw.alloc w 41 #[.int .i64 0, .int .i64 0, .int .i64 0, .int .i64 0, .slice none 0 0, .string ⟨#[]⟩, .slice none 0 0] (Nat.zero_le w.heap.size)) hb1
  have HB1 := Lib.hid (below_then (below_more (Below.refl _ w) _) hb1)
  have HR1 := Lib.hid hR1
  clear hR1 hb1
  go_wp2_with fail
  have HH2 := Lib.hid (Rw.alloc W1 41 #[.int .i64 t, .int .i64 q, .int .i64 ix, .int .i64 tm, .slice ma m mc, .string sd, .slice la n lc] (Nat.zero_le W1.heap.size))
  have HR2 := Lib.hid (Rw.more HR1.out (.cells #[.int .i64 t, .int .i64 q, .int .i64 ix, .int .i64 tm, .slice ma m mc, .string sd, .slice la n lc] 41))
  have HB2 := Lib.hid (below_more HB1.out (.cells #[.int .i64 t, .int .i64 q, .int .i64 ix, .int .i64 tm, .slice ma m mc, .string sd, .slice la n lc] 41))
  refine (kcloneSnap_any ix tm sd (intsAt_below HMS.out HB2.out)).mono ?_
  rintro e W3 ⟨ua, uc, rfl, ho3, hb3⟩
  rw [← HMM.out] at ho3 ⊢
  have HH3 := Lib.hid (Rw.below HH2.out hb3)
  have HR3 := Lib.hid (Rw.below HR2.out hb3)
  have HB3 := Lib.hid (HB2.out.trans (hb3.mono HB2.out.size))
  have hw1 := HB1.out.size
  have HNE : Hid (w.heap.size ≠ W1.heap.size) := Lib.hid (by have := Rw.size HR1.out; omega)
  have HRM := Lib.hid (Rw.other (Rw.other (Rw.other (Rw.other HR3.out (Ne.symm HNE.out) 2 (.int .i64 ix)) (Ne.symm HNE.out) 3 (.int .i64 tm)) (Ne.symm HNE.out) 4 (.slice ua m uc)) (Ne.symm HNE.out) 5 (.string sd))
  have HBM := Lib.hid ((((HB3.out.setCell (p := ⟨W1.heap.size, 2, none⟩) hw1 (.int .i64 ix)).setCell (p := ⟨W1.heap.size, 3, none⟩) hw1 (.int .i64 tm)).setCell (p := ⟨W1.heap.size, 4, none⟩) hw1 (.slice ua m uc)).setCell (p := ⟨W1.heap.size, 5, none⟩) hw1 (.string sd))
  have h2 := HH3.out
  have h3 := Rw.stored h2 2 (.int .i64 ix)
  have h4 := Rw.stored h3 3 (.int .i64 tm)
  have h5 := Rw.stored h4 4 (.slice ua m uc)
  have h6 := Rw.stored h5 5 (.string sd)
  have c2 := Rw.cell (j := 2) (v := .int .i64 ix) h2 rfl
  have f2 := Rw.free h2 2
  have c3 := Rw.cell (j := 3) (v := .int .i64 tm) h3 rfl
  have f3 := Rw.free h3 3
  have c4 := Rw.cell (j := 4) (v := .slice ma m mc) h4 rfl
  have f4 := Rw.free h4 4
  have c5 := Rw.cell (j := 5) (v := .string sd) h5 rfl
  have f5 := Rw.free h5 5
  have c6 := Rw.cell (j := 6) (v := .slice la n lc) h6 rfl
  have HH6 : Hid (Rw ((((W3.setCell ⟨W1.heap.size, 2, none⟩ (.int .i64 ix)).setCell ⟨W1.heap.size, 3, none⟩ (.int .i64 tm)).setCell ⟨W1.heap.size, 4, none⟩ (.slice ua m uc)).setCell ⟨W1.heap.size, 5, none⟩ (.string sd)) 0 W1.heap.size 41 [.int .i64 t, .int .i64 q, .int .i64 ix, .int .i64 tm, .slice ua m uc, .string sd, .slice la n lc]) := Lib.hid h6
  clear ho3 hb3 h2 h3 h4 h5 h6
  go_wp2_with fail
  clear c2 f2 c3 f3 c4 f4 c5 f5 c6
  generalize (((W3.setCell ⟨W1.heap.size, 2, none⟩ (.int .i64 ix)).setCell ⟨W1.heap.size, 3, none⟩ (.int .i64 tm)).setCell ⟨W1.heap.size, 4, none⟩ (.slice ua m uc)).setCell ⟨W1.heap.size, 5, none⟩ (.string sd) = W4 at HH6 HRM HBM ⊢
  have h0 : OwnE W4 0 (.slice none 0 0) [] := ⟨World.ownsRow_nil _ _ _ _, fun r hr => absurd hr (by simp)⟩
  have hkb : ∀ w', Kept (fun k => (Value.slice none 0 0).ownBlock = some k) W4 w' → Below W4.heap.size W4 w' := fun w' hk => ⟨hk.os, hk.tape, hk.output, hk.size, fun k hlt => hk.blk k hlt (by simp [Value.ownBlock])⟩
  have HKB := Lib.hid hkb
  have happ := kappend_any h0 (lv := .slice la n lc) (es := es) (fun w' hk => entsAt_below HES.out (HBM.out.trans ((hkb w' hk).mono HBM.out.size))) (by have := HL.out; simp; omega)
  rw [show ([] : List RecE).length + es.length = n by rw [HNN.out]; simp] at happ
  refine happ.mono ?_
  clear happ h0 hkb
  rintro e W5 ⟨ea, ec, rfl, ns, hns, hown, hnv, hk5, hnw⟩
  have hb5 := HKB.out W5 hk5
  have HH5 := Lib.hid (Rw.below HH6.out hb5)
  have HR5 := Lib.hid (Rw.below HRM.out hb5)
  have HB5 := Lib.hid (HBM.out.trans (hb5.mono HBM.out.size))
  have HOW := Lib.hid hown
  have HNS := Lib.hid hns
  have HNV := Lib.hid hnv
  have HNW := Lib.hid hnw
  have c6 := Rw.cell (j := 6) (v := .slice la n lc) HH5.out rfl
  have f6 := Rw.free HH5.out 6
  have h7 := Rw.stored HH5.out 6 (.slice ea n ec)
  have HH7 : Hid (Rw (W5.setCell ⟨W1.heap.size, 6, none⟩ (.slice ea n ec)) 0 W1.heap.size 41 [.int .i64 t, .int .i64 q, .int .i64 ix, .int .i64 tm, .slice ua m uc, .string sd, .slice ea n ec]) := Lib.hid h7
  have HR7 := Lib.hid (Rw.other HR5.out (Ne.symm HNE.out) 6 (.slice ea n ec))
  have HB7 := Lib.hid (HB5.out.setCell (p := ⟨W1.heap.size, 6, none⟩) HB1.out.size (.slice ea n ec))
  have HO7 := Lib.hid (ownE_store HOW.out HH5.out (by decide) (by decide) 6 (.slice ea n ec))
  clear hown hns hk5 hb5 h7 hnv hnw
  go_wp2_with (first | (refine wpList_load_mid rfl 41 _ rfl W1.heap.size 0 rfl [.int .i64 t, .int .i64 q, .int .i64 ix, .int .i64 tm, .slice ua m uc, .string sd, .slice ea n ec] _ (Rw.whole HH7.out) Tryz.underlying41 rfl Tryz.sizeHard ?_) | (refine wpList_store_mid rfl 41 _ _ rfl w.heap.size 0 #[.int .i64 t, .int .i64 q, .int .i64 ix, .int .i64 tm, .slice ua m uc, .string sd, .slice ea n ec] rfl rfl (Rw.there HR7.out 0 7 (by decide)) Tryz.sizeHard (hd_one _ _ _ _ _ _ _ _ _ _ _) ?_) | fail)
  have hend := Rw.storedAll HR7.out [.int .i64 t, .int .i64 q, .int .i64 ix, .int .i64 tm, .slice ua m uc, .string sd, .slice ea n ec] rfl
  refine bodyPost_ret (v := .agg #[.int .i64 t, .int .i64 q, .int .i64 ix, .int .i64 tm, .slice ua m uc, .string sd, .slice ea n ec]) ?_ rfl ⟨ea, ec, ua, uc, ns, rfl, HNS.out, ownE_stores HO7.out HR7.out (by decide) (by decide) 0 _, below_setCells (Nat.le_refl _) _ 0 _ HB7.out, fun k hk => by rcases HNV.out k hk with h | h; (· simp [Value.ownBlock] at h); (· exact Nat.le_trans HBM.out.size h), fun r hr k hk => Nat.le_trans HBM.out.size (HNW.out r hr k hk)⟩
  exact results_cell_row rfl _ _ w.heap.size _ _ _ _ rfl hend.2 Tryz.underlying41 rfl Tryz.sizeHard

abbrev stV (t q : Int) (la : Option Addr) (n lc lz : Nat) : List Value := [.int .i64 t, .int .i64 q, .int .i64 0, .int .i64 0, .slice none 0 0, .string ⟨#[]⟩, .slice la n lc, .int .i64 lz]

/-- A Keep without a snapshot on a disk with its file. -/
structure KepAt (w0 w : World) (Z : Nat → Prop) (g kb R : Nat) (s sp : ByteArray) (b : List UInt8) (ops : Nat) (t q : Int) (la : Option Addr) (lc : Nat) (rs : List RecE) (lz : Nat) : Prop where
  din : DIn w0 w Z g (onD R s.data.toList b b.length ops)
  rwk : Rw w 0 kb 62 (stV t q la rs.length lc lz ++ [.pointer (some ⟨g, 0, none⟩), .string s, .string sp, .int .i64 b.length, .bool false])
  own : OwnE w 0 (.slice la rs.length lc) rs
  zk : Z kb
  kge : w0.heap.size ≤ kb
  zl : ∀ k, (Value.slice la rs.length lc).ownBlock = some k → Z k
  zm : ∀ r ∈ rs, ∀ k, r.u.ownBlock = some k → Z k

/-- What holds of a Keep's names, room and table throughout. -/
structure KepOk (w0 : World) (R : Nat) (s : ByteArray) : Prop where
  nib : NibAt w0
  nm : nameB s.data.toList = true
  hs : s.size ≤ maxLen
  hR : R < 1099511627776
  h500 : 500 ≤ R

/-- A call on a Keep: what others see. -/
def KepV (w0 w w' : World) (Z : Nat → Prop) (kb : Nat) : Prop := w.heap.size ≤ w'.heap.size ∧ ∀ k, k < w.heap.size → (k < w0.heap.size ∨ Z k) → k ≠ kb → w'.heap[k]? = w.heap[k]?

theorem rw_heap {w w' : World} {b g : Nat} {e : TypeId} {xs : List Value} (h : Rw w b g e xs) (hk : w'.heap[g]? = w.heap[g]?) : Rw w' b g e xs := ⟨h.1, hk.trans h.2⟩

theorem kep_end {w0 W W' : World} {Z : Nat → Prop} {g kb sz : Nat} {D2 : CodM} {x8 y8 : List Value} {p5 p6 p7 p8 p9 : Value} (hr : Rw W 0 kb 62 (x8 ++ [p5, p6, p7, p8, p9])) (hx : x8.length = 8) (hy : y8.length = 8) (hK : KaddV w0 W W' Z g kb sz D2) (zk : Z kb) (kge : w0.heap.size ≤ kb) :
    DIn w0 (W'.setCells kb 0 y8) Z g D2 ∧ Rw (W'.setCells kb 0 y8) 0 kb 62 (y8 ++ [p5, p6, p7, .int .i64 sz, p9]) ∧ KepV w0 W (W'.setCells kb 0 y8) Z kb := by
  obtain ⟨w1, hd1, hk1, rfl⟩ := hK
  have hlt := Rw.size hr
  have hr1 := rw_heap hr (hk1.2 kb hlt (.inr zk))
  have hr2 := Rw.stored hr1 11 (.int .i64 sz)
  have e2 : (x8 ++ [p5, p6, p7, p8, p9]).set 11 (.int .i64 sz) = [] ++ (x8 ++ [p5, p6, p7, .int .i64 sz, p9]) := by
    match x8, hx with
    | [_, _, _, _, _, _, _, _], _ => rfl
  rw [e2] at hr2
  have hr3 := Rw.storedMid hr2 0 y8 rfl (by omega)
  have hkk : Kept (fun k => k = kb) w1 ((w1.setCell ⟨kb, 11, none⟩ (.int .i64 sz)).setCells kb 0 y8) := kept_puts (F := fun k => k = kb) (.inl rfl) y8 0 (kept_put (kept_refl (fun k => k = kb) w1) (.inl rfl) 11 _)
  have hbw : Below w0.heap.size w0 ((w1.setCell ⟨kb, 11, none⟩ (.int .i64 sz)).setCells kb 0 y8) := below_setCells kge y8 0 _ ((dIn_below hd1).setCell (p := ⟨kb, 11, none⟩) kge _)
  refine ⟨dIn_less (dIn_other hd1 hkk (fun k _ hk => by rw [hk]; exact zk) hbw) (fun k hk => .inl hk), hr3, Nat.le_trans hk1.1 hkk.size, fun k hk hz hne => ?_⟩
  rw [hkk.blk k (Nat.lt_of_lt_of_le hk hk1.1) hne, hk1.2 k hk hz]

theorem ownE_keep {w w' : World} {base : Nat} {v : Value} {rs : List RecE} (h : OwnE w base v rs) (hl : ∀ k, v.ownBlock = some k → w'.heap[k]? = w.heap[k]?) (hm : ∀ r ∈ rs, ∀ k, r.u.ownBlock = some k → w'.heap[k]? = w.heap[k]?) : OwnE w' base v rs :=
  ⟨own_same h.1 hl, fun r hr => ⟨own_same (h.2 r hr).1 (hm r hr), (h.2 r hr).2⟩⟩

/-- What is stored, and what the disk then has. -/
theorem kep_sto {w0 W : World} {g kb R : Nat} {s sp : ByteArray} {b : List UInt8} {ops : Nat} {ls : List (List UInt8)} {Z2 : Nat → Prop} {x8 : List Value} (hok : KepOk w0 R s) (hx : x8.length = 8)
    (hd : DIn w0 W Z2 g (onD R s.data.toList b b.length ops)) (hr : Rw W 0 kb 62 (x8 ++ [.pointer (some ⟨g, 0, none⟩), .string s, .string sp, .int .i64 b.length, .bool false])) (hz : Z2 kb) (hl : b.length + totL ls ≤ 500) (hn : ls.length ≤ 1000) (ho : ops < 100000000) :
    StoK w0 W Z2 g kb b.length s (onD R s.data.toList b b.length ops) (onD R s.data.toList (b ++ ls.flatten) b.length (ops + 1)) (onD R s.data.toList (b ++ ls.flatten) (b ++ ls.flatten).length (ops + 2)) ls := by
  have hat : ∀ (j : Nat) (v : Value), [Value.pointer (some ⟨g, 0, none⟩), .string s, .string sp, .int .i64 (b.length : Int), .bool false][j]? = some v → W.cell? ⟨kb, 8 + j, none⟩ = some v := fun j v hj => Rw.cell hr (by rw [List.getElem?_append_right (by omega), hx, show 8 + j - 8 = j by omega]; exact hj)
  have hfl : totL ls = ls.flatten.length := rfl
  refine ⟨hd, hz, by omega, by omega, hat 0 _ rfl, hat 1 _ rfl, hat 3 _ rfl, hat 4 _ rfl, fun j => Rw.free hr j, onD_ok hok.hR (by have := hok.h500; omega) (by omega), onD_ok hok.hR ?_ (by omega), hok.hs, by omega, app_more R s.data.toList b ls.flatten b.length ops hok.nm (by have := hok.h500; omega), syn_one R s (b ++ ls.flatten) b.length (ops + 1)⟩
  rw [List.length_append]
  have := hok.h500
  omega

set_option maxRecDepth 100000 in
set_option maxHeartbeats 1000000 in
theorem kvote_any {w0 w : World} {Z : Nat → Prop} {g kb R : Nat} {s sp : ByteArray} {b : List UInt8} {ops : Nat} {t q : Int} {la : Option Addr} {lc lz : Nat} {rs : List RecE} (h : KepAt w0 w Z g kb R s sp b ops t q la lc rs lz) (hok : KepOk w0 R s) (t' q' : Int) (ht : 0 ≤ t') (hq : 0 ≤ q')
    (hl : b.length + totL (chFrS [.vote t' q']) ≤ 500) (ho : ops < 100000000) (hlz : lz ≤ 100000) :
    Calls Tryz.prog 12 #[.pointer (some ⟨kb, 0, none⟩), .int .i64 t', .int .i64 q'] w fun e w' => e = .returned (.int .i64 0) ∧ (∃ b', b'.length = b.length + totL (chFrS [.vote t' q']) ∧ KepAt w0 w' Z g kb R s sp b' (ops + 2) t' q' la lc rs lz) ∧ KepV w0 w w' Z kb := by
  have hdo := kdo_vote (kb := kb) (d := g) (nm := .string s) (sp := .string sp) (sz := .int .i64 b.length) t' q' (t' := t') (q' := q') (ix' := 0) (tm' := 0) (lz' := lz) (ma' := none) (la' := la) (mn' := 0) (mc' := 0) (ln' := rs.length) (lc' := lc) (sd' := ⟨#[]⟩)
    (R := fun W gn => Below w.heap.size w W ∧ w.heap.size ≤ gn ∧ Rw W 0 gn 53 (stV t' q' la rs.length lc lz))
    (S := fun W' gn => ∃ W, (Below w.heap.size w W ∧ w.heap.size ≤ gn ∧ Rw W 0 gn 53 (stV t' q' la rs.length lc lz)) ∧ KaddV w0 W W' (fun k => Z k ∨ (w.heap.size ≤ k ∧ k < W.heap.size)) g kb (b.length + totL (chFrS [.vote t' q'])) (onD R s.data.toList (b ++ (chFrS [.vote t' q']).flatten) (b ++ (chFrS [.vote t' q']).flatten).length (ops + 2)))
    h.rwk (fun W gn _ => vfits_yes ht hq) (fun W gn _ => vidle_any) ?ha ?hs ?hS
  case ha =>
    intro W gn hN
    refine (vapply_any hN.2.2 t' q' (.int .i64 t) (.int .i64 q) rfl rfl).mono ?_
    rintro e w' ⟨rfl, hr, hk⟩
    exact ⟨rfl, below_kept (kept_then (G := fun k => k = gn) (kept_below hN.1) hk (fun x hx => .inr (by rw [hx]; exact hN.2.1))), hN.2.1, hr⟩
  case hs =>
    rintro W gn ⟨hb, hgn, hr⟩
    have hd2 := dIn_new h.din hb
    have hrk := Rw.below h.rwk hb
    refine (kstore_ok (c := .vote t' q') (lsz := lz) (sd := ⟨#[]⟩) (kep_sto hok rfl hd2 hrk (.inl h.zk) hl (by simp [chFrS]) ho) rfl (show 30 < 131072 by decide) (nib_stay hok.nib (dIn_below hd2)) (Rw.cell hr rfl) (Rw.cell hr rfl) (by show lz + 0 ≤ _; omega) hl).mono ?_
    rintro e w' ⟨rfl, hK⟩
    exact ⟨rfl, W, ⟨hb, hgn, hr⟩, hK⟩
  case hS =>
    rintro W' gn ⟨W, ⟨hb, hgn, hr⟩, w1, hd1, hk1, rfl⟩
    have hrk := Rw.below h.rwk hb
    have hne : kb ≠ gn := by have := Rw.size h.rwk; omega
    have h1 := rw_heap hr (hk1.2 gn (Rw.size hr) (.inr (.inr ⟨hgn, Rw.size hr⟩)))
    have h2 := rw_heap hrk (hk1.2 kb (Rw.size hrk) (.inr (.inl h.zk)))
    exact ⟨Rw.other h1 hne 11 _, _, Rw.stored h2 11 _, by simp⟩
  have HD := Lib.hid hdo
  have H := Lib.hid h
  clear h hdo hok ht hq hl ho hlz
  go_enter Tryz.func12, Tryz.ntmps12
  go_wp2_with fail
  refine HD.out.mono ?_
  rintro e w' ⟨rfl, Wx, gn, ⟨W, ⟨hb, hgn, hr⟩, hK⟩, rfl⟩
  have hrk := Rw.below H.out.rwk hb
  obtain ⟨e1, e2, e3, e4⟩ := kep_end (y8 := stV t' q' la rs.length lc lz) hrk rfl rfl hK (.inl H.out.zk) H.out.kge
  have hfr : ∀ k, k < w.heap.size → (k < w0.heap.size ∨ Z k) → k ≠ kb → (Wx.setCells kb 0 (stV t' q' la rs.length lc lz)).heap[k]? = w.heap[k]? := fun k hk hz hne => (e4 k (Nat.lt_of_lt_of_le hk hb.size) (hz.imp id .inl) hne).trans (hb.block k hk)
  have hne1 : ∀ k, (Value.slice la rs.length lc).ownBlock = some k → k ≠ kb := fun k hk e => own_rw H.out.own.1 H.out.rwk (by decide) (by rw [hk, e])
  have hne2 : ∀ r ∈ rs, ∀ k, r.u.ownBlock = some k → k ≠ kb := fun r hm k hk e => own_rw (H.out.own.2 r hm).1 H.out.rwk (by decide) (by rw [hk, e])
  have hown := ownE_keep H.out.own (fun k hk => hfr k (own_lt H.out.own.1 hk) (.inr (H.out.zl k hk)) (hne1 k hk)) (fun r hm k hk => hfr k (own_lt (H.out.own.2 r hm).1 hk) (.inr (H.out.zm r hm k hk)) (hne2 r hm k hk))
  have hfin : KepAt w0 (Wx.setCells kb 0 (stV t' q' la rs.length lc lz)) Z g kb R s sp (b ++ (chFrS [.vote t' q']).flatten) (ops + 2) t' q' la lc rs lz :=
    ⟨dIn_less e1 (fun _ hk => .inl hk), by rw [List.length_append]; exact e2, hown, H.out.zk, H.out.kge, H.out.zl, H.out.zm⟩
  have HFIN := Lib.hid hfin
  have HFR : Hid (KepV w0 w (Wx.setCells kb 0 (stV t' q' la rs.length lc lz)) Z kb) := Lib.hid ⟨Nat.le_trans hb.size e3, hfr⟩
  clear hb hgn hr hK hrk e1 e2 e3 e4 hfr hne1 hne2 hown hfin
  go_wp2_with fail
  go_ret
  exact ⟨rfl, ⟨_, by rw [List.length_append]; rfl, HFIN.out⟩, HFR.out⟩

theorem intsZ_of {w : World} {v : Value} {l : List Int} (h : IntsAt w v l) : IntsZ w (fun k => k < w.heap.size) v l := by
  refine ⟨h.1, ?_⟩
  rcases h.2 with k | ⟨ad, c, hv, k⟩
  · exact .inl k
  · refine .inr ⟨ad, c, hv, ?_⟩
    rcases k with k | ⟨b, o, ha, k⟩
    · exact .inl k
    · cases l with
      | nil => exact .inl rfl
      | cons x r => exact .inr ⟨b, o, ha, block_of_cell (k 0 x rfl), k⟩

theorem entsZ_of {w : World} {v : Value} {es : List EntM} (h : EntsAt w v es) : EntsZ w (fun k => k < w.heap.size) v es := by
  obtain ⟨A, C, rfl, h⟩ := h
  refine ⟨A, C, rfl, ?_⟩
  rcases h with h | ⟨b, o, ha, h⟩
  · exact .inl h
  · cases es with
    | nil => exact .inl rfl
    | cons x r =>
      obtain ⟨u, h1, _⟩ := h 0 x rfl
      exact .inr ⟨b, o, ha, block_of_cell (h1 0 _ rfl), fun j e hj => by
        obtain ⟨u, h1, h2⟩ := h j e hj
        exact ⟨u, h1, intsZ_of h2⟩⟩

theorem nil_own (w : World) : OwnE w 0 (.slice none 0 0) [] := ⟨World.ownsRow_nil _ _ _ _, fun r hr => absurd hr (by simp)⟩

set_option maxRecDepth 100000 in
set_option maxHeartbeats 1000000 in
theorem kapp_first {w0 w : World} {Z : Nat → Prop} {g kb R : Nat} {s sp : ByteArray} {b : List UInt8} {ops : Nat} {t q : Int} {lz : Nat} (h : KepAt w0 w Z g kb R s sp b ops t q none 0 [] lz) (hok : KepOk w0 R s)
    {pa : Option Addr} {pc pn : Nat} {es : List EntM} (hpn : pn = es.length) (hp : EntsAt w (.slice pa pn pc) es) (hf : FitsA 0 es) (hne : es ≠ [])
    (hn : es.length ≤ 1000) (hl : b.length + totL (chFrS [.app es]) ≤ 500) (hsz : szCh (.app es) < 131072) (ho : ops < 100000000) (hlz : lz + ensz es ≤ 100000) :
    Calls Tryz.prog 7 #[.pointer (some ⟨kb, 0, none⟩), .slice pa pn pc] w fun e w' => e = .returned (.int .i64 0) ∧
      (∃ b' la' lc', ∃ ns : List RecE, ns.map (·.e) = es ∧ b'.length = b.length + totL (chFrS [.app es]) ∧ KepAt w0 w' (fun k => Z k ∨ (Value.slice la' ns.length lc').ownBlock = some k ∨ ∃ r ∈ ns, r.u.ownBlock = some k) g kb R s sp b' (ops + 2) t q la' lc' ns (lz + ensz es) ∧ (∀ k, (Value.slice la' ns.length lc').ownBlock = some k → w.heap.size ≤ k) ∧ ∀ r ∈ ns, ∀ k, r.u.ownBlock = some k → w.heap.size ≤ k) ∧ KepV w0 w w' Z kb := by
  have hszs : szEs es ≤ 100000000 := by
    have h1 : 30 + szEs es < 131072 := hsz
    omega
  have hdo := kdo_app (kb := kb) (d := g) (nm := .string s) (sp := .string sp) (sz := .int .i64 b.length) pa pn pc (t' := t) (q' := q) (ix' := 0) (tm' := 0) (lz' := ((lz + ensz es : Nat) : Int)) (ma' := none) (mn' := 0) (mc' := 0) (ln' := es.length) (sd' := ⟨#[]⟩)
    (R := fun W gn => Below w.heap.size w W ∧ w.heap.size ≤ gn ∧ ∃ W0, Below w.heap.size w W0 ∧ ExtV W0 W gn (.slice none 0 0) [] es [.int .i64 t, .int .i64 q, .int .i64 0, .int .i64 0, .slice none 0 0, .string ⟨#[]⟩] lz)
    (S := fun W' gn => ∃ W, (Below w.heap.size w W ∧ w.heap.size ≤ gn ∧ ∃ W0, Below w.heap.size w W0 ∧ ExtV W0 W gn (.slice none 0 0) [] es [.int .i64 t, .int .i64 q, .int .i64 0, .int .i64 0, .slice none 0 0, .string ⟨#[]⟩] lz) ∧ KaddV w0 W W' (fun k => Z k ∨ (w.heap.size ≤ k ∧ k < W.heap.size)) g kb (b.length + totL (chFrS [.app es])) (onD R s.data.toList (b ++ (chFrS [.app es]).flatten) (b ++ (chFrS [.app es]).flatten).length (ops + 2)))
    h.rwk ?hf ?hi ?ha ?hs ?hS
  case hf =>
    intro W gn hN
    have := afits_yes (n := 0) (Rw.cell (j := 2) hN.2.2 rfl) (Rw.cell (j := 6) hN.2.2 rfl) (by omega) (by omega) (by omega) (entsAt_below hp hN.1) (by omega) (by simpa using hf)
    exact this
  case hi =>
    intro W gn hN
    refine (aidle_no (by rw [hpn]; exact List.length_pos_iff.2 hne)).mono ?_
    rintro e w' ⟨rfl, rfl⟩
    exact ⟨rfl, Below.refl _ _⟩
  case ha =>
    intro W gn hN
    have hnil : OwnE W 0 (.slice none ([] : List RecE).length 0) [] := nil_own W
    refine (aapply_any (rs := []) (Z := fun k => k < w.heap.size) hN.2.2 hnil (entsZ_keep (entsZ_of hp) (fun k hlt _ => hN.1.block k hlt)) (fun k _ hk => ⟨by have := hN.2.1; omega, by simp [Value.ownBlock]⟩) (by simp; omega) hszs (by omega)).mono ?_
    rintro e w' ⟨rfl, hv⟩
    obtain ⟨a, c, ns, v1, v2, v3, v4, v5, v6⟩ := hv
    refine ⟨rfl, ?_, hN.2.1, W, hN.1, a, c, ns, v1, v2, v3, v4, v5, v6⟩
    exact below_kept (kept_then (kept_below hN.1) v5 (fun x hx => .inr (by rcases hx with hx | hx; (· rw [hx]; exact hN.2.1); (· simp [Value.ownBlock] at hx))))
  case hs =>
    rintro W gn ⟨hb, hgn, W0, hb0, a, c, ns, v1, v2, v3, v4, v5, v6⟩
    have hd2 := dIn_new h.din hb
    have hrk := Rw.below h.rwk hb
    refine (kstore_ok (c := .app es) (lsz := lz + ensz es) (sd := ⟨#[]⟩) (kep_sto hok rfl hd2 hrk (.inl h.zk) hl (by simp [chFrS]) ho) ⟨_, rfl, entsAt_below hp hb, hne, by omega⟩ hsz (nib_stay hok.nib (dIn_below hd2)) (Rw.cell (j := 5) v2 rfl) (Rw.cell (j := 7) v2 rfl) (by show lz + ensz es + 0 ≤ _; omega) hl).mono ?_
    rintro e w' ⟨rfl, hK⟩
    exact ⟨rfl, W, ⟨hb, hgn, W0, hb0, a, c, ns, v1, v2, v3, v4, v5, v6⟩, hK⟩
  case hS =>
    rintro W' gn ⟨W, ⟨hb, hgn, W0, hb0, a, c, ns, v1, v2, v3, v4, v5, v6⟩, w1, hd1, hk1, rfl⟩
    have hrk := Rw.below h.rwk hb
    have hne2 : kb ≠ gn := by have := Rw.size h.rwk; omega
    have h1 := rw_heap v2 (hk1.2 gn (Rw.size v2) (.inr (.inr ⟨hgn, Rw.size v2⟩)))
    have h2 := rw_heap hrk (hk1.2 kb (Rw.size hrk) (.inr (.inl h.zk)))
    refine ⟨a, c, ?_, _, Rw.stored h2 11 _, by simp⟩
    have h3 := Rw.other h1 hne2 11 (.int .i64 ((b.length + totL (chFrS [.app es]) : Nat) : Int))
    simpa using h3
  have HD := Lib.hid hdo
  have H := Lib.hid h
  have HOK := Lib.hid hok
  clear h hdo hok hp hf hne hn hl hsz ho hlz hszs hpn
  go_enter Tryz.func7, Tryz.ntmps7
  go_wp2_with fail
  refine HD.out.mono ?_
  rintro e w' ⟨rfl, Wx, gn, la', lc', ⟨W, ⟨hb, hgn, W0, hb0, a, c, ns, v1, v2, v3, v4, v5, v6⟩, hK⟩, hst, rfl⟩
  have hrk := Rw.below H.out.rwk hb
  have hnl : ns.length = es.length := by rw [← v1, List.length_map]
  -- the log's slice is the one that apply left
  have hla : la' = a ∧ lc' = c := by
    obtain ⟨w1, hd1, hk1, rfl⟩ := hK
    have hne2 : kb ≠ gn := by have := Rw.size H.out.rwk; omega
    have h1 := Rw.other (rw_heap v2 (hk1.2 gn (Rw.size v2) (.inr (.inr ⟨hgn, Rw.size v2⟩)))) hne2 11 (.int .i64 ((b.length + totL (chFrS [.app es]) : Nat) : Int))
    have k1 := Rw.cell (j := 6) (v := .slice a (0 + es.length) c) h1 rfl
    have k2 := Rw.cell (j := 6) (v := .slice la' es.length lc') hst rfl
    rw [k1] at k2
    injection k2 with k2
    injection k2 with k3 k4 k5
    exact ⟨k3.symm, k5.symm⟩
  obtain ⟨rfl, rfl⟩ := hla
  obtain ⟨e1, e2, e3, e4⟩ := kep_end (y8 := [(.int .i64 t), (.int .i64 q), (.int .i64 0), (.int .i64 0), (.slice none 0 0), (.string ⟨#[]⟩), (.slice la' es.length lc'), (.int .i64 ((lz + ensz es : Nat) : Int))]) hrk rfl rfl hK (.inl H.out.zk) H.out.kge
  generalize World.setCells Wx kb 0 [(.int .i64 t), (.int .i64 q), (.int .i64 0), (.int .i64 0), (.slice none 0 0), (.string ⟨#[]⟩), (.slice la' es.length lc'), (.int .i64 ((lz + ensz es : Nat) : Int))] = w2 at e1 e2 e3 e4 ⊢
  have hfr : ∀ k, k < w.heap.size → (k < w0.heap.size ∨ Z k) → k ≠ kb → w2.heap[k]? = w.heap[k]? := fun k hk hz hne => (e4 k (Nat.lt_of_lt_of_le hk hb.size) (hz.imp id .inl) hne).trans (hb.block k hk)
  have hlog : ∀ k, (Value.slice la' ns.length lc').ownBlock = some k → w.heap.size ≤ k ∧ k < W.heap.size := fun k hk => by
    have hk' : (Value.slice la' (([] : List RecE).length + es.length) lc').ownBlock = some k := by
      cases la' with
      | none => simp [Value.ownBlock] at hk
      | some ad => simpa [Value.ownBlock] using hk
    refine ⟨?_, own_lt v3.1 hk'⟩
    rcases v4 k hk' with hx | hx
    · simp [Value.ownBlock] at hx
    · exact Nat.le_trans hb0.size hx
  have hmem : ∀ r ∈ ns, ∀ k, r.u.ownBlock = some k → w.heap.size ≤ k ∧ k < W.heap.size := fun r hr k hk => ⟨Nat.le_trans hb0.size (v6 r hr k hk), own_lt (v3.2 r (by simpa using hr)).1 hk⟩
  have hkblt : kb < w.heap.size := Rw.size H.out.rwk
  have hown : OwnE w2 0 (.slice la' ns.length lc') ns := by
    have h0 : OwnE W 0 (.slice la' ns.length lc') ns := by
      have := v3
      rw [List.nil_append] at this
      rw [show ([] : List RecE).length + es.length = ns.length by rw [hnl]; simp] at this
      exact this
    exact ownE_keep h0 (fun k hk => e4 k (hlog k hk).2 (.inr (.inr (hlog k hk))) (by have := (hlog k hk).1; omega)) (fun r hr k hk => e4 k (hmem r hr k hk).2 (.inr (.inr (hmem r hr k hk))) (by have := (hmem r hr k hk).1; omega))
  have hfin : KepAt w0 w2 (fun k => Z k ∨ (Value.slice la' ns.length lc').ownBlock = some k ∨ ∃ r ∈ ns, r.u.ownBlock = some k) g kb R s sp (b ++ (chFrS [.app es]).flatten) (ops + 2) t q la' lc' ns (lz + ensz es) :=
    ⟨dIn_less e1 (fun k hk => by
        rcases hk with hk | hk | ⟨r, hr, hk⟩
        · exact .inl hk
        · exact .inr (hlog k hk)
        · exact .inr (hmem r hr k hk)), by rw [hnl, List.length_append]; exact e2, hown, .inl H.out.zk, H.out.kge, fun k hk => .inr (.inl hk), fun r hr k hk => .inr (.inr ⟨r, hr, hk⟩)⟩
  have HFIN := Lib.hid hfin
  have HNS := Lib.hid v1
  have HLG := Lib.hid (fun k hk => (hlog k hk).1)
  have HME := Lib.hid (fun r hr k hk => (hmem r hr k hk).1)
  have HFR : Hid (KepV w0 w w2 Z kb) := Lib.hid ⟨Nat.le_trans hb.size e3, hfr⟩
  clear hb hgn hb0 v1 v2 v3 v4 v5 v6 hK hst hrk hnl e1 e2 e3 e4 hfr hlog hmem hkblt hown hfin
  go_wp2_with fail
  go_ret
  exact ⟨rfl, ⟨_, la', lc', ns, HNS.out, by rw [List.length_append]; rfl, HFIN.out, HLG.out, HME.out⟩, HFR.out⟩

end Go.Proofs.YtageldnhchgplaaGreatDoor
