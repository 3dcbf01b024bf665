/- Contracts: keep: what a change does to a Keep. -/
import Derived.BigRegion
import Derived.Deep.RegionHeld3
import Derived.Deep.QuietTactic
import Derived.BigQuiet
import Derived.IntWalk
import Derived.Deep.CutBlock
import Derived.Deep.RegionLaw
import Derived.Test.YtageldnhchgplaaGreatDoorProg
import Derived.Test.YtageldnhchgplaaGreatDoorKit
import Derived.Test.YtageldnhchgplaaGreatDoorRow
import Derived.Test.YtageldnhchgplaaGreatDoorRow2
import Derived.Test.YtageldnhchgplaaGreatDoorCod7
import Derived.Test.YtageldnhchgplaaGreatDoorFp
import Derived.Test.YtageldnhchgplaaGreatDoorNet0
import Derived.Test.YtageldnhchgplaaGreatDoorStp
import Derived.Test.YtageldnhchgplaaGreatDoorKp0
import Derived.Test.YtageldnhchgplaaGreatDoorKp6
namespace Go.Proofs.YtageldnhchgplaaGreatDoor
open Go.RowKit Go.Proofs

theorem Tryz.sizeState : (Tryz.prog.info? 53).map (·.size) = some 8 := by kernel_rfl

theorem know_any {w : World} {kb : Nat} {t q ix tm lz : Int} {ma la : Option Addr} {mn mc ln lc : Nat} {sd : ByteArray} {r : List Value} (h : Rw w 0 kb 62 ((.int .i64 t) :: (.int .i64 q) :: (.int .i64 ix) :: (.int .i64 tm) :: (.slice ma mn mc) :: (.string sd) :: (.slice la ln lc) :: (.int .i64 lz) :: r)) :
    Calls Tryz.prog 17 #[.pointer (some ⟨kb, 0, none⟩)] w fun e w' => e = .returned (.agg #[(.int .i64 t), (.int .i64 q), (.int .i64 ix), (.int .i64 tm), (.slice ma mn mc), (.string sd), (.slice la ln lc), (.int .i64 lz)]) ∧ Below w.heap.size w w' := by
  have hm := Rw.more h (.cells #[.int .i64 0, .int .i64 0, .int .i64 0, .int .i64 0, .slice none 0 0, .string ⟨#[]⟩, .slice none 0 0, .int .i64 0] 53)
  have HB := Lib.hid (below_more (Below.refl _ w) (.cells #[.int .i64 0, .int .i64 0, .int .i64 0, .int .i64 0, .slice none 0 0, .string ⟨#[]⟩, .slice none 0 0, .int .i64 0] 53))
  have hne : kb ≠ w.heap.size := Nat.ne_of_lt (Rw.size h)
  have c0 := Rw.cell (j := 0) (v := (.int .i64 t)) hm rfl
  have c1 := Rw.cell (j := 1) (v := (.int .i64 q)) hm rfl
  have c2 := Rw.cell (j := 2) (v := (.int .i64 ix)) hm rfl
  have c3 := Rw.cell (j := 3) (v := (.int .i64 tm)) hm rfl
  have c4 := Rw.cell (j := 4) (v := (.slice ma mn mc)) hm rfl
  have c5 := Rw.cell (j := 5) (v := (.string sd)) hm rfl
  have c6 := Rw.cell (j := 6) (v := (.slice la ln lc)) hm rfl
  have c7 := Rw.cell (j := 7) (v := (.int .i64 lz)) hm rfl
  clear h hm
  go_enter Tryz.func17, Tryz.ntmps17
  go_wp2_with fail
  refine bodyPost_ret (v := .agg #[(.int .i64 t), (.int .i64 q), (.int .i64 ix), (.int .i64 tm), (.slice ma mn mc), (.string sd), (.slice la ln lc), (.int .i64 lz)]) ?_ rfl ⟨rfl, below_more (Below.refl _ w) _⟩
  exact results_cell_row rfl _ _ w.heap.size _ _ _ _ rfl (heap_alloc_new w _) Tryz.underlying53 rfl Tryz.sizeState

theorem st_one (t q ix tm lz : Int) (ma la : Option Addr) (mn mc ln lc : Nat) (sd : ByteArray) : (#[Value.int .i64 t, .int .i64 q, .int .i64 ix, .int .i64 tm, .slice ma mn mc, .string sd, .slice la ln lc, .int .i64 lz].all (·.oneCell')) = true := by simp [Value.oneCell']

def NextAt (w : World) (gn : Nat) (xs : List Value) (W : World) : Prop := Below w.heap.size w W ∧ w.heap.size ≤ gn ∧ Rw W 0 gn 53 xs

theorem inv_vote_fits (pt pq : Int) : ∀ w, (method 299 67 (.agg #[.int .i64 pt, .int .i64 pq]) "parapet/keep.fits").run Tryz.prog w = .ok (140, .agg #[.int .i64 pt, .int .i64 pq]) w := fun _ => by kernel_rfl

theorem inv_vote_idle (pt pq : Int) : ∀ w, (method 299 67 (.agg #[.int .i64 pt, .int .i64 pq]) "parapet/keep.idle").run Tryz.prog w = .ok (141, .agg #[.int .i64 pt, .int .i64 pq]) w := fun _ => by kernel_rfl

theorem inv_vote_apply (pt pq : Int) : ∀ w, (method 299 67 (.agg #[.int .i64 pt, .int .i64 pq]) "parapet/keep.apply").run Tryz.prog w = .ok (139, .agg #[.int .i64 pt, .int .i64 pq]) w := fun _ => by kernel_rfl

set_option maxRecDepth 100000 in
set_option maxHeartbeats 1000000 in
theorem kdo_vote {w : World} {kb d : Nat} {nm sp sz : Value} (pt pq : Int) {t q ix tm lz t' q' ix' tm' lz' : Int} {ma la ma' la' : Option Addr} {mn mc ln lc mn' mc' ln' lc' : Nat} {sd sd' : ByteArray} {R S : World → Nat → Prop}
    (h : Rw w 0 kb 62 [(.int .i64 t), (.int .i64 q), (.int .i64 ix), (.int .i64 tm), (.slice ma mn mc), (.string sd), (.slice la ln lc), (.int .i64 lz), .pointer (some ⟨d, 0, none⟩), nm, sp, sz, .bool false])
    (hf : ∀ W gn, NextAt w gn [(.int .i64 t), (.int .i64 q), (.int .i64 ix), (.int .i64 tm), (.slice ma mn mc), (.string sd), (.slice la ln lc), (.int .i64 lz)] W → Calls Tryz.prog 140 #[.agg #[.int .i64 pt, .int .i64 pq], .pointer (some ⟨gn, 0, none⟩)] W fun e w' => e = .returned (.bool true) ∧ Below W.heap.size W w')
    (hi : ∀ W gn, NextAt w gn [(.int .i64 t), (.int .i64 q), (.int .i64 ix), (.int .i64 tm), (.slice ma mn mc), (.string sd), (.slice la ln lc), (.int .i64 lz)] W → Calls Tryz.prog 141 #[.agg #[.int .i64 pt, .int .i64 pq], .pointer (some ⟨gn, 0, none⟩)] W fun e w' => e = .returned (.bool false) ∧ Below W.heap.size W w')
    (ha : ∀ W gn, NextAt w gn [(.int .i64 t), (.int .i64 q), (.int .i64 ix), (.int .i64 tm), (.slice ma mn mc), (.string sd), (.slice la ln lc), (.int .i64 lz)] W → Calls Tryz.prog 139 #[.agg #[.int .i64 pt, .int .i64 pq], .pointer (some ⟨gn, 0, none⟩)] W fun e w' => e = .returned (.tuple #[]) ∧ R w' gn)
    (hs : ∀ W gn, R W gn → Calls Tryz.prog 21 #[.pointer (some ⟨kb, 0, none⟩), .pointer (some ⟨gn, 0, none⟩), .iface 67 (.agg #[.int .i64 pt, .int .i64 pq])] W fun e w' => e = .returned (.int .i64 0) ∧ S w' gn)
    (hS : ∀ W gn, S W gn → Rw W 0 gn 53 [(.int .i64 t'), (.int .i64 q'), (.int .i64 ix'), (.int .i64 tm'), (.slice ma' mn' mc'), (.string sd'), (.slice la' ln' lc'), (.int .i64 lz')] ∧ ∃ cs, Rw W 0 kb 62 cs ∧ cs.length = 13) :
    Calls Tryz.prog 14 #[.pointer (some ⟨kb, 0, none⟩), .iface 67 (.agg #[.int .i64 pt, .int .i64 pq])] w fun e w' => e = .returned (.int .i64 0) ∧ ∃ W gn, S W gn ∧ w' = W.setCells kb 0 [(.int .i64 t'), (.int .i64 q'), (.int .i64 ix'), (.int .i64 tm'), (.slice ma' mn' mc'), (.string sd'), (.slice la' ln' lc'), (.int .i64 lz')] := by
  have HNOW := Lib.hid (know_any h)
  have H := Lib.hid h
  have HF := Lib.hid hf
  have HI := Lib.hid hi
  have HA := Lib.hid ha
  have HSS := Lib.hid hs
  have HSP := Lib.hid hS
  have mf := inv_vote_fits pt pq
  have mi := inv_vote_idle pt pq
  have mp := inv_vote_apply pt pq
  clear h hf hi ha hs hS
  go_enter Tryz.func14, Tryz.ntmps14
  go_wp2_with fail
  refine (HNOW.out).mono ?_
  rintro e wa ⟨rfl, hba⟩
  have HN1 : Hid (NextAt w wa.heap.size [(.int .i64 t), (.int .i64 q), (.int .i64 ix), (.int .i64 tm), (.slice ma mn mc), (.string sd), (.slice la ln lc), (.int .i64 lz)] (wa.alloc (.cells #[(.int .i64 t), (.int .i64 q), (.int .i64 ix), (.int .i64 tm), (.slice ma mn mc), (.string sd), (.slice la ln lc), (.int .i64 lz)] 53))) := Lib.hid ⟨below_then hba (below_more (Below.refl _ wa) _), hba.size, Rw.alloc wa _ _ (Nat.zero_le _)⟩
  clear hba
  go_wp2_with fail
  refine (HF.out _ _ HN1.out).mono ?_
  rintro e wb ⟨rfl, hbb⟩
  have HN2 : Hid (NextAt w wa.heap.size [(.int .i64 t), (.int .i64 q), (.int .i64 ix), (.int .i64 tm), (.slice ma mn mc), (.string sd), (.slice la ln lc), (.int .i64 lz)] wb) := Lib.hid ⟨below_then HN1.out.1 hbb, HN1.out.2.1, Rw.below HN1.out.2.2 hbb⟩
  have HK := Lib.hid (Rw.below H.out HN2.out.1)
  have HON := Lib.hid (kon_yes (w := wb) (g := kb) (o := 8) (d := d) (Rw.cell HK.out rfl) (Rw.cell HK.out rfl))
  clear hbb mf
  go_wp2_with fail
  refine (HON.out).mono ?_
  rintro e w2 ⟨rfl, rfl⟩
  go_wp2_with fail
  refine (HI.out _ _ HN2.out).mono ?_
  rintro e wc ⟨rfl, hbc⟩
  have HN3 : Hid (NextAt w wa.heap.size [(.int .i64 t), (.int .i64 q), (.int .i64 ix), (.int .i64 tm), (.slice ma mn mc), (.string sd), (.slice la ln lc), (.int .i64 lz)] wc) := Lib.hid ⟨below_then HN2.out.1 hbc, HN2.out.2.1, Rw.below HN2.out.2.2 hbc⟩
  clear hbc mi
  go_wp2_with fail
  refine (HA.out _ _ HN3.out).mono ?_
  rintro e wd ⟨rfl, hr⟩
  have HST := Lib.hid (HSS.out _ _ hr)
  clear hr mp
  go_wp2_with fail
  refine (HST.out).mono ?_
  rintro e we ⟨rfl, hs5⟩
  have HS5 := Lib.hid hs5
  clear hs5
  obtain ⟨hg, cs, hk, hl⟩ := HSP.out _ _ HS5.out
  have hl8 : 0 + 8 ≤ cs.length := by omega
  have HG := Lib.hid hg
  have HKK := Lib.hid hk
  have HL8 := Lib.hid hl8
  clear hg hk hl hl8
  go_wp2_with (first | (refine wpList_load_mid rfl 53 _ rfl wa.heap.size 0 rfl [(.int .i64 t'), (.int .i64 q'), (.int .i64 ix'), (.int .i64 tm'), (.slice ma' mn' mc'), (.string sd'), (.slice la' ln' lc'), (.int .i64 lz')] _ (Rw.whole HG.out) Tryz.underlying53 rfl Tryz.sizeState ?_) | (refine wpList_store_mid rfl 53 _ _ rfl kb 0 #[(.int .i64 t'), (.int .i64 q'), (.int .i64 ix'), (.int .i64 tm'), (.slice ma' mn' mc'), (.string sd'), (.slice la' ln' lc'), (.int .i64 lz')] rfl rfl (Rw.there HKK.out 0 8 HL8.out) Tryz.sizeState (st_one _ _ _ _ _ _ _ _ _ _ _ _) ?_) | fail)
  go_ret
  exact ⟨rfl, we, wa.heap.size, HS5.out, rfl⟩

theorem inv_app_fits (pa : Option Addr) (pn pc : Nat) : ∀ w, (method 299 49 (.slice pa pn pc) "parapet/keep.fits").run Tryz.prog w = .ok (119, .slice pa pn pc) w := fun _ => by kernel_rfl

theorem inv_app_idle (pa : Option Addr) (pn pc : Nat) : ∀ w, (method 299 49 (.slice pa pn pc) "parapet/keep.idle").run Tryz.prog w = .ok (120, .slice pa pn pc) w := fun _ => by kernel_rfl

theorem inv_app_apply (pa : Option Addr) (pn pc : Nat) : ∀ w, (method 299 49 (.slice pa pn pc) "parapet/keep.apply").run Tryz.prog w = .ok (118, .slice pa pn pc) w := fun _ => by kernel_rfl

set_option maxRecDepth 100000 in
set_option maxHeartbeats 1000000 in
theorem kdo_app {w : World} {kb d : Nat} {nm sp sz : Value} (pa : Option Addr) (pn pc : Nat) {t q ix tm lz t' q' ix' tm' lz' : Int} {ma la ma' : Option Addr} {mn mc ln lc mn' mc' ln' : Nat} {sd sd' : ByteArray} {R S : World → Nat → Prop}
    (h : Rw w 0 kb 62 [(.int .i64 t), (.int .i64 q), (.int .i64 ix), (.int .i64 tm), (.slice ma mn mc), (.string sd), (.slice la ln lc), (.int .i64 lz), .pointer (some ⟨d, 0, none⟩), nm, sp, sz, .bool false])
    (hf : ∀ W gn, NextAt w gn [(.int .i64 t), (.int .i64 q), (.int .i64 ix), (.int .i64 tm), (.slice ma mn mc), (.string sd), (.slice la ln lc), (.int .i64 lz)] W → Calls Tryz.prog 119 #[.slice pa pn pc, .pointer (some ⟨gn, 0, none⟩)] W fun e w' => e = .returned (.bool true) ∧ Below W.heap.size W w')
    (hi : ∀ W gn, NextAt w gn [(.int .i64 t), (.int .i64 q), (.int .i64 ix), (.int .i64 tm), (.slice ma mn mc), (.string sd), (.slice la ln lc), (.int .i64 lz)] W → Calls Tryz.prog 120 #[.slice pa pn pc, .pointer (some ⟨gn, 0, none⟩)] W fun e w' => e = .returned (.bool false) ∧ Below W.heap.size W w')
    (ha : ∀ W gn, NextAt w gn [(.int .i64 t), (.int .i64 q), (.int .i64 ix), (.int .i64 tm), (.slice ma mn mc), (.string sd), (.slice la ln lc), (.int .i64 lz)] W → Calls Tryz.prog 118 #[.slice pa pn pc, .pointer (some ⟨gn, 0, none⟩)] W fun e w' => e = .returned (.tuple #[]) ∧ R w' gn)
    (hs : ∀ W gn, R W gn → Calls Tryz.prog 21 #[.pointer (some ⟨kb, 0, none⟩), .pointer (some ⟨gn, 0, none⟩), .iface 49 (.slice pa pn pc)] W fun e w' => e = .returned (.int .i64 0) ∧ S w' gn)
    (hS : ∀ W gn, S W gn → ∃ la' lc', Rw W 0 gn 53 [(.int .i64 t'), (.int .i64 q'), (.int .i64 ix'), (.int .i64 tm'), (.slice ma' mn' mc'), (.string sd'), (.slice la' ln' lc'), (.int .i64 lz')] ∧ ∃ cs, Rw W 0 kb 62 cs ∧ cs.length = 13) :
    Calls Tryz.prog 14 #[.pointer (some ⟨kb, 0, none⟩), .iface 49 (.slice pa pn pc)] w fun e w' => e = .returned (.int .i64 0) ∧ ∃ W gn la' lc', S W gn ∧ Rw W 0 gn 53 [(.int .i64 t'), (.int .i64 q'), (.int .i64 ix'), (.int .i64 tm'), (.slice ma' mn' mc'), (.string sd'), (.slice la' ln' lc'), (.int .i64 lz')] ∧ w' = W.setCells kb 0 [(.int .i64 t'), (.int .i64 q'), (.int .i64 ix'), (.int .i64 tm'), (.slice ma' mn' mc'), (.string sd'), (.slice la' ln' lc'), (.int .i64 lz')] := by
  have HNOW := Lib.hid (know_any h)
  have H := Lib.hid h
  have HF := Lib.hid hf
  have HI := Lib.hid hi
  have HA := Lib.hid ha
  have HSS := Lib.hid hs
  have HSP := Lib.hid hS
  have mf := inv_app_fits pa pn pc
  have mi := inv_app_idle pa pn pc
  have mp := inv_app_apply pa pn pc
  clear h hf hi ha hs hS
  go_enter Tryz.func14, Tryz.ntmps14
  go_wp2_with fail
  refine (HNOW.out).mono ?_
  rintro e wa ⟨rfl, hba⟩
  have HN1 : Hid (NextAt w wa.heap.size [(.int .i64 t), (.int .i64 q), (.int .i64 ix), (.int .i64 tm), (.slice ma mn mc), (.string sd), (.slice la ln lc), (.int .i64 lz)] (wa.alloc (.cells #[(.int .i64 t), (.int .i64 q), (.int .i64 ix), (.int .i64 tm), (.slice ma mn mc), (.string sd), (.slice la ln lc), (.int .i64 lz)] 53))) := Lib.hid ⟨below_then hba (below_more (Below.refl _ wa) _), hba.size, Rw.alloc wa _ _ (Nat.zero_le _)⟩
  clear hba
  go_wp2_with fail
  refine (HF.out _ _ HN1.out).mono ?_
  rintro e wb ⟨rfl, hbb⟩
  have HN2 : Hid (NextAt w wa.heap.size [(.int .i64 t), (.int .i64 q), (.int .i64 ix), (.int .i64 tm), (.slice ma mn mc), (.string sd), (.slice la ln lc), (.int .i64 lz)] wb) := Lib.hid ⟨below_then HN1.out.1 hbb, HN1.out.2.1, Rw.below HN1.out.2.2 hbb⟩
  have HK := Lib.hid (Rw.below H.out HN2.out.1)
  have HON := Lib.hid (kon_yes (w := wb) (g := kb) (o := 8) (d := d) (Rw.cell HK.out rfl) (Rw.cell HK.out rfl))
  clear hbb mf
  go_wp2_with fail
  refine (HON.out).mono ?_
  rintro e w2 ⟨rfl, rfl⟩
  go_wp2_with fail
  refine (HI.out _ _ HN2.out).mono ?_
  rintro e wc ⟨rfl, hbc⟩
  have HN3 : Hid (NextAt w wa.heap.size [(.int .i64 t), (.int .i64 q), (.int .i64 ix), (.int .i64 tm), (.slice ma mn mc), (.string sd), (.slice la ln lc), (.int .i64 lz)] wc) := Lib.hid ⟨below_then HN2.out.1 hbc, HN2.out.2.1, Rw.below HN2.out.2.2 hbc⟩
  clear hbc mi
  go_wp2_with fail
  refine (HA.out _ _ HN3.out).mono ?_
  rintro e wd ⟨rfl, hr⟩
  have HST := Lib.hid (HSS.out _ _ hr)
  clear hr mp
  go_wp2_with fail
  refine (HST.out).mono ?_
  rintro e we ⟨rfl, hs5⟩
  have HS5 := Lib.hid hs5
  clear hs5
  obtain ⟨la', lc', hg, cs, hk, hl⟩ := HSP.out _ _ HS5.out
  have hl8 : 0 + 8 ≤ cs.length := by omega
  have HG := Lib.hid hg
  have HKK := Lib.hid hk
  have HL8 := Lib.hid hl8
  clear hg hk hl hl8
  go_wp2_with (first | (refine wpList_load_mid rfl 53 _ rfl wa.heap.size 0 rfl [(.int .i64 t'), (.int .i64 q'), (.int .i64 ix'), (.int .i64 tm'), (.slice ma' mn' mc'), (.string sd'), (.slice la' ln' lc'), (.int .i64 lz')] _ (Rw.whole HG.out) Tryz.underlying53 rfl Tryz.sizeState ?_) | (refine wpList_store_mid rfl 53 _ _ rfl kb 0 #[(.int .i64 t'), (.int .i64 q'), (.int .i64 ix'), (.int .i64 tm'), (.slice ma' mn' mc'), (.string sd'), (.slice la' ln' lc'), (.int .i64 lz')] rfl rfl (Rw.there HKK.out 0 8 HL8.out) Tryz.sizeState (st_one _ _ _ _ _ _ _ _ _ _ _ _) ?_) | fail)
  go_ret
  exact ⟨rfl, we, wa.heap.size, la', lc', HS5.out, HG.out, rfl⟩

theorem inv_cut_fits (pi : Int) : ∀ w, (method 299 51 (.int .i64 pi) "parapet/keep.fits").run Tryz.prog w = .ok (136, .int .i64 pi) w := fun _ => by kernel_rfl

theorem inv_cut_idle (pi : Int) : ∀ w, (method 299 51 (.int .i64 pi) "parapet/keep.idle").run Tryz.prog w = .ok (137, .int .i64 pi) w := fun _ => by kernel_rfl

theorem inv_cut_apply (pi : Int) : ∀ w, (method 299 51 (.int .i64 pi) "parapet/keep.apply").run Tryz.prog w = .ok (135, .int .i64 pi) w := fun _ => by kernel_rfl

set_option maxRecDepth 100000 in
set_option maxHeartbeats 1000000 in
theorem kdo_cut {w : World} {kb d : Nat} {nm sp sz : Value} (pi : Int) {t q ix tm lz t' q' ix' tm' lz' : Int} {ma la ma' la' : Option Addr} {mn mc ln lc mn' mc' ln' lc' : Nat} {sd sd' : ByteArray} {R S : World → Nat → Prop}
    (h : Rw w 0 kb 62 [(.int .i64 t), (.int .i64 q), (.int .i64 ix), (.int .i64 tm), (.slice ma mn mc), (.string sd), (.slice la ln lc), (.int .i64 lz), .pointer (some ⟨d, 0, none⟩), nm, sp, sz, .bool false])
    (hf : ∀ W gn, NextAt w gn [(.int .i64 t), (.int .i64 q), (.int .i64 ix), (.int .i64 tm), (.slice ma mn mc), (.string sd), (.slice la ln lc), (.int .i64 lz)] W → Calls Tryz.prog 136 #[.int .i64 pi, .pointer (some ⟨gn, 0, none⟩)] W fun e w' => e = .returned (.bool true) ∧ Below W.heap.size W w')
    (hi : ∀ W gn, NextAt w gn [(.int .i64 t), (.int .i64 q), (.int .i64 ix), (.int .i64 tm), (.slice ma mn mc), (.string sd), (.slice la ln lc), (.int .i64 lz)] W → Calls Tryz.prog 137 #[.int .i64 pi, .pointer (some ⟨gn, 0, none⟩)] W fun e w' => e = .returned (.bool false) ∧ Below W.heap.size W w')
    (ha : ∀ W gn, NextAt w gn [(.int .i64 t), (.int .i64 q), (.int .i64 ix), (.int .i64 tm), (.slice ma mn mc), (.string sd), (.slice la ln lc), (.int .i64 lz)] W → Calls Tryz.prog 135 #[.int .i64 pi, .pointer (some ⟨gn, 0, none⟩)] W fun e w' => e = .returned (.tuple #[]) ∧ R w' gn)
    (hs : ∀ W gn, R W gn → Calls Tryz.prog 21 #[.pointer (some ⟨kb, 0, none⟩), .pointer (some ⟨gn, 0, none⟩), .iface 51 (.int .i64 pi)] W fun e w' => e = .returned (.int .i64 0) ∧ S w' gn)
    (hS : ∀ W gn, S W gn → Rw W 0 gn 53 [(.int .i64 t'), (.int .i64 q'), (.int .i64 ix'), (.int .i64 tm'), (.slice ma' mn' mc'), (.string sd'), (.slice la' ln' lc'), (.int .i64 lz')] ∧ ∃ cs, Rw W 0 kb 62 cs ∧ cs.length = 13) :
    Calls Tryz.prog 14 #[.pointer (some ⟨kb, 0, none⟩), .iface 51 (.int .i64 pi)] w fun e w' => e = .returned (.int .i64 0) ∧ ∃ W gn, S W gn ∧ w' = W.setCells kb 0 [(.int .i64 t'), (.int .i64 q'), (.int .i64 ix'), (.int .i64 tm'), (.slice ma' mn' mc'), (.string sd'), (.slice la' ln' lc'), (.int .i64 lz')] := by
  have HNOW := Lib.hid (know_any h)
  have H := Lib.hid h
  have HF := Lib.hid hf
  have HI := Lib.hid hi
  have HA := Lib.hid ha
  have HSS := Lib.hid hs
  have HSP := Lib.hid hS
  have mf := inv_cut_fits pi
  have mi := inv_cut_idle pi
  have mp := inv_cut_apply pi
  clear h hf hi ha hs hS
  go_enter Tryz.func14, Tryz.ntmps14
  go_wp2_with fail
  refine (HNOW.out).mono ?_
  rintro e wa ⟨rfl, hba⟩
  have HN1 : Hid (NextAt w wa.heap.size [(.int .i64 t), (.int .i64 q), (.int .i64 ix), (.int .i64 tm), (.slice ma mn mc), (.string sd), (.slice la ln lc), (.int .i64 lz)] (wa.alloc (.cells #[(.int .i64 t), (.int .i64 q), (.int .i64 ix), (.int .i64 tm), (.slice ma mn mc), (.string sd), (.slice la ln lc), (.int .i64 lz)] 53))) := Lib.hid ⟨below_then hba (below_more (Below.refl _ wa) _), hba.size, Rw.alloc wa _ _ (Nat.zero_le _)⟩
  clear hba
  go_wp2_with fail
  refine (HF.out _ _ HN1.out).mono ?_
  rintro e wb ⟨rfl, hbb⟩
  have HN2 : Hid (NextAt w wa.heap.size [(.int .i64 t), (.int .i64 q), (.int .i64 ix), (.int .i64 tm), (.slice ma mn mc), (.string sd), (.slice la ln lc), (.int .i64 lz)] wb) := Lib.hid ⟨below_then HN1.out.1 hbb, HN1.out.2.1, Rw.below HN1.out.2.2 hbb⟩
  have HK := Lib.hid (Rw.below H.out HN2.out.1)
  have HON := Lib.hid (kon_yes (w := wb) (g := kb) (o := 8) (d := d) (Rw.cell HK.out rfl) (Rw.cell HK.out rfl))
  clear hbb mf
  go_wp2_with fail
  refine (HON.out).mono ?_
  rintro e w2 ⟨rfl, rfl⟩
  go_wp2_with fail
  refine (HI.out _ _ HN2.out).mono ?_
  rintro e wc ⟨rfl, hbc⟩
  have HN3 : Hid (NextAt w wa.heap.size [(.int .i64 t), (.int .i64 q), (.int .i64 ix), (.int .i64 tm), (.slice ma mn mc), (.string sd), (.slice la ln lc), (.int .i64 lz)] wc) := Lib.hid ⟨below_then HN2.out.1 hbc, HN2.out.2.1, Rw.below HN2.out.2.2 hbc⟩
  clear hbc mi
  go_wp2_with fail
  refine (HA.out _ _ HN3.out).mono ?_
  rintro e wd ⟨rfl, hr⟩
  have HST := Lib.hid (HSS.out _ _ hr)
  clear hr mp
  go_wp2_with fail
  refine (HST.out).mono ?_
  rintro e we ⟨rfl, hs5⟩
  have HS5 := Lib.hid hs5
  clear hs5
  obtain ⟨hg, cs, hk, hl⟩ := HSP.out _ _ HS5.out
  have hl8 : 0 + 8 ≤ cs.length := by omega
  have HG := Lib.hid hg
  have HKK := Lib.hid hk
  have HL8 := Lib.hid hl8
  clear hg hk hl hl8
  go_wp2_with (first | (refine wpList_load_mid rfl 53 _ rfl wa.heap.size 0 rfl [(.int .i64 t'), (.int .i64 q'), (.int .i64 ix'), (.int .i64 tm'), (.slice ma' mn' mc'), (.string sd'), (.slice la' ln' lc'), (.int .i64 lz')] _ (Rw.whole HG.out) Tryz.underlying53 rfl Tryz.sizeState ?_) | (refine wpList_store_mid rfl 53 _ _ rfl kb 0 #[(.int .i64 t'), (.int .i64 q'), (.int .i64 ix'), (.int .i64 tm'), (.slice ma' mn' mc'), (.string sd'), (.slice la' ln' lc'), (.int .i64 lz')] rfl rfl (Rw.there HKK.out 0 8 HL8.out) Tryz.sizeState (st_one _ _ _ _ _ _ _ _ _ _ _ _) ?_) | fail)
  go_ret
  exact ⟨rfl, we, wa.heap.size, HS5.out, rfl⟩

/-- What the extension leaves. -/
def ExtV (w w' : World) (gn : Nat) (tv : Value) (rs : List RecE) (es : List EntM) (xs : List Value) (lz : Nat) : Prop :=
  ∃ (a : Option Addr) (c : Nat) (ns : List RecE), ns.map (·.e) = es ∧ Rw w' 0 gn 53 (xs ++ [.slice a (rs.length + es.length) c, .int .i64 ((lz + ensz es : Nat) : Int)]) ∧ OwnE w' 0 (.slice a (rs.length + es.length) c) (rs ++ ns) ∧
    (∀ k, (Value.slice a (rs.length + es.length) c).ownBlock = some k → tv.ownBlock = some k ∨ w.heap.size ≤ k) ∧ Kept (fun k => k = gn ∨ tv.ownBlock = some k) w w' ∧ ∀ r ∈ ns, ∀ k, r.u.ownBlock = some k → w.heap.size ≤ k

set_option maxRecDepth 100000 in
set_option maxHeartbeats 1000000 in
theorem kextend_any {w : World} {gn lz : Nat} {x0 x1 x2 x3 x4 x5 : Value} {la : Option Addr} {lc : Nat} {rs : List RecE} {Z : Nat → Prop} {lv : Value} {es : List EntM} (h : Rw w 0 gn 53 [x0, x1, x2, x3, x4, x5, .slice la rs.length lc, .int .i64 lz])
    (ho : OwnE w 0 (.slice la rs.length lc) rs) (hp : EntsZ w Z lv es) (hZ : ∀ k, k < w.heap.size → Z k → k ≠ gn ∧ (Value.slice la rs.length lc).ownBlock ≠ some k) (hn : rs.length + es.length ≤ 1000000) (hs : szEs es ≤ 100000000) (hz : lz ≤ 1000000000) :
    Calls Tryz.prog 122 #[.pointer (some ⟨gn, 0, none⟩), lv] w fun e w' => e = .returned (.tuple #[]) ∧ ExtV w w' gn (.slice la rs.length lc) rs es [x0, x1, x2, x3, x4, x5] lz := by
  have hoff := own_rw ho.1 h (by decide)
  have HAPP := Lib.hid (kappend_any ho (lv := lv) (es := es) (fun w' hk => entsZ_at (entsZ_keep hp (fun k hlt hz => hk.blk k hlt (hZ k hlt hz).2))) hn)
  have c6 : w.cell? ⟨gn, 6, none⟩ = some (.slice la rs.length lc) := Rw.cell h rfl
  have H := Lib.hid h
  have HP := Lib.hid hp
  have HZ := Lib.hid hZ
  have HNB := Lib.hid hn
  have HS := Lib.hid hs
  have HLZ := Lib.hid hz
  have HOFF := Lib.hid hoff
  obtain ⟨A, C, rfl, _⟩ := hp
  obtain ⟨R, hR⟩ : ∃ R, R = rs.length := ⟨_, rfl⟩
  obtain ⟨N, hN⟩ : ∃ N, N = es.length := ⟨_, rfl⟩
  obtain ⟨X, hX⟩ : ∃ X, X = ensz es := ⟨_, rfl⟩
  have HR := Lib.hid hR
  have HN := Lib.hid hN
  have HX := Lib.hid hX
  unfold ExtV
  rw [← hX]
  rw [← hR, ← hN] at HAPP ⊢
  rw [← hR] at HZ H c6 HOFF
  rw [← hN] at HP
  clear h ho hZ hn hs hz hoff hR hN hX
  go_enter Tryz.func122, Tryz.ntmps122
  go_wp2_with fail
  refine (HAPP.out).mono ?_
  rintro e w1 ⟨a, c, rfl, ns, hm, hN1, hv, hk, hnw⟩
  have HNW := Lib.hid hnw
  clear hnw
  have h1 := rw_kept H.out hk HOFF.out
  have c6 : w1.cell? ⟨gn, 6, none⟩ = some (.slice la R lc) := Rw.cell h1 rfl
  have f6 := Rw.free h1 6
  have h2 := Rw.stored h1 6 (.slice a (R + N) c)
  have c7 : (w1.setCell ⟨gn, 6, none⟩ (.slice a (R + N) c)).cell? ⟨gn, 7, none⟩ = some (.int .i64 lz) := Rw.cell h2 rfl
  have f7 := Rw.free h2 7
  have HALL := Lib.hid (And.intro h1 (And.intro h2 (And.intro hm (And.intro hN1 (And.intro hv hk)))))
  clear h1 h2 hm hN1 hv hk
  go_wp2_with fail
  obtain ⟨h1, h2, hm, hN1, hv, hk⟩ := HALL.out
  clear HALL
  have hk2 : Kept (fun k => k = gn ∨ (Value.slice la R lc).ownBlock = some k) w (w1.setCell ⟨gn, 6, none⟩ (.slice a (R + N) c)) := kept_put (kept_mono hk (fun k hx => .inl (.inr hx))) (.inl (.inl rfl)) _ _
  have ho2 : OwnE (w1.setCell ⟨gn, 6, none⟩ (.slice a (R + N) c)) 0 (.slice a (R + N) c) (rs ++ ns) := ⟨own_store hN1.1 h1 (by decide) _ _, fun r hr => ⟨own_store (hN1.2 r hr).1 h1 (by decide) _ _, (hN1.2 r hr).2⟩⟩
  have hes : EntsAt (w1.setCell ⟨gn, 6, none⟩ (.slice a (R + N) c)) (.slice A N C) es := entsZ_at (entsZ_keep HP.out (fun k hlt hz => hk2.blk k hlt (fun hx => hx.elim (fun e => (HZ.out k hlt hz).1 e) (fun e => (HZ.out k hlt hz).2 e))))
  generalize w1.setCell ⟨gn, 6, none⟩ (.slice a (R + N) c) = W2 at c7 f7 h2 hk2 ho2 hes ⊢
  have HES := Lib.hid (kesize_any (entsAt_below (w' := W2.drew) hes (below_draws (Below.refl _ _) ⟨1, rfl⟩)) (by have := HNB.out; omega) (by have := HS.out; omega))
  rw [← HX.out] at HES
  have henter : Enters Tryz.prog 126 := enters_of Tryz.func126 (by kernel_rfl) rfl
  have hXb : X ≤ 100000000 := by
    have := ensz_le es
    have := HS.out
    have := HX.out
    omega
  have hw2 : IntKind.i64.wrap ((lz : Int) + (X : Int)) = (lz : Int) + (X : Int) := IntWalk.i64_in _ (by have := HLZ.out; omega)
  have hw1 : wrap64 ((lz : Int) + (X : Int)) = (lz : Int) + (X : Int) := by have := HLZ.out; unfold wrap64; omega
  have HH2 := Lib.hid (rw_drew h2)
  have HM := Lib.hid hm
  have HO2 := Lib.hid ho2
  have HV := Lib.hid hv
  have HK2 := Lib.hid (kept_drew hk2)
  clear h1 h2 hm hN1 hv hk c6 f6 hk2 ho2 hes hXb
  go_region_law (refine step_call rfl 126 _ _ rfl #[.slice A N C] (by simp [go_sem]) henter HES.out ?_; rintro e w5 ⟨rfl, hb5⟩; refine ⟨_, rfl, ?_⟩; have HB5 := Lib.hid hb5; have h5 := Rw.below HH2.out hb5; have c75 := Rw.cell (j := 7) (v := .int .i64 lz) h5 rfl; have f75 := Rw.free h5 7; have H5 := Lib.hid h5; clear h5 hb5)
  all_goals
    go_end0
    have ho5 := ownE_below (ownE_below (w' := W2.drew) HO2.out (below_draws (Below.refl _ _) ⟨1, rfl⟩)) HB5.out
    refine ⟨rfl, a, c, ns, HM.out, ?_, ⟨own_store ho5.1 H5.out (by decide) _ _, fun r hr => ⟨own_store (ho5.2 r hr).1 H5.out (by decide) _ _, (ho5.2 r hr).2⟩⟩, HV.out, kept_put (kept_trans HK2.out (kept_below HB5.out)) (.inl (.inl rfl)) _ _, HNW.out⟩
    rw [Int.natCast_add]
    exact Rw.stored H5.out 7 _

theorem aapply_any {w : World} {gn lz : Nat} {x0 x1 x2 x3 x4 x5 : Value} {la : Option Addr} {lc : Nat} {rs : List RecE} {Z : Nat → Prop} {lv : Value} {es : List EntM} (h : Rw w 0 gn 53 [x0, x1, x2, x3, x4, x5, .slice la rs.length lc, .int .i64 lz])
    (ho : OwnE w 0 (.slice la rs.length lc) rs) (hp : EntsZ w Z lv es) (hZ : ∀ k, k < w.heap.size → Z k → k ≠ gn ∧ (Value.slice la rs.length lc).ownBlock ≠ some k) (hn : rs.length + es.length ≤ 1000000) (hs : szEs es ≤ 100000000) (hz : lz ≤ 1000000000) :
    Calls Tryz.prog 118 #[lv, .pointer (some ⟨gn, 0, none⟩)] w fun e w' => e = .returned (.tuple #[]) ∧ ExtV w w' gn (.slice la rs.length lc) rs es [x0, x1, x2, x3, x4, x5] lz := by
  have HE := Lib.hid (kextend_any h ho hp hZ hn hs hz)
  clear h ho hp hZ hn hs hz
  go_enter Tryz.func118, Tryz.ntmps118
  go_wp2_with fail
  refine (HE.out).mono ?_
  rintro e w1 ⟨rfl, hv⟩
  have HV := Lib.hid hv
  clear hv
  go_wp2_with fail
  go_end0
  exact ⟨rfl, HV.out⟩

theorem kstop_any {w : World} {g : Nat} {x0 : Value} {lo k : Int} (h : Rw w 0 g 131 [x0, .int .i64 lo, .int .i64 k]) (kn : Int) :
    Calls Tryz.prog 64 #[.pointer (some ⟨g, 0, none⟩), .int .i64 kn] w fun e w' => e = .returned (.tuple #[]) ∧ Rw w' 0 g 131 [.slice none 0 0, .int .i64 lo, .int .i64 (if k = 1 then kn else k)] ∧ Kept (fun x => x = g) w w' := by
  have c0 : w.cell? ⟨g, 0, none⟩ = some x0 := Rw.cell h rfl
  have c2 : w.cell? ⟨g, 2, none⟩ = some (.int .i64 k) := Rw.cell h rfl
  have f0 := Rw.free h 0
  have f2 := Rw.free h 2
  have H := Lib.hid h
  clear h
  by_cases hk : k = 1
  · have q1 : (k == 1) = true := by rw [hk]; rfl
    have HK := Lib.hid hk
    clear hk
    go_enter Tryz.func64, Tryz.ntmps64
    go_wp2_with fail
    go_end0
    try rw [if_pos HK.out]
    exact ⟨rfl, Rw.stored (Rw.stored H.out 2 _) 0 _, kept_put (kept_put (kept_refl (fun x => x = g) w) (.inl rfl) _ _) (.inl rfl) _ _⟩
  · have q1 : (k == 1) = false := by rw [beq_eq_false_iff_ne]; exact hk
    have HK := Lib.hid hk
    clear hk
    go_enter Tryz.func64, Tryz.ntmps64
    go_wp2_with fail
    go_end0
    try rw [if_neg HK.out]
    exact ⟨rfl, Rw.stored H.out 0 _, kept_put (kept_refl (fun x => x = g) w) (.inl rfl) _ _⟩

theorem kleast_any {w : World} :
    Calls Tryz.prog 65 #[.slice none 0 0] w fun e w' => e = .returned (.int .i64 0) ∧ w' = w := by
  go_enter Tryz.func65, Tryz.ntmps65
  go_wp2_with fail
  go_loop [3, 5] (fun nv iv => ∃ (i : Nat), i ≤ 4 ∧ iv = .int .i64 i ∧ nv = .int .i64 0) (fun _ iv => 4 - (intOf iv).toNat)
  case atStart => exact ⟨0, Nat.zero_le _, rfl, rfl⟩
  case round =>
    obtain ⟨i, hi', rfl, rfl⟩ := hrel
    by_cases hlt : i < 4
    · have hy : (i : Int) < 4 := by omega
      have hn0 : ¬ (i : Int) < 0 := by omega
      have HI := Lib.hid hlt
      clear hlt hi'
      go_wp2_with fail
      go_round
      case rel => exact ⟨i + 1, HI.out, by go_num, rfl⟩
      case measure => have := HI.out; simp [intOf]; omega
    · have hyk : ¬ (i : Int) < 4 := by omega
      clear hlt hi'
      go_wp2_with fail
      go_ret
      exact ⟨rfl, rfl⟩

set_option maxRecDepth 100000 in
set_option maxHeartbeats 1000000 in
theorem ktake_none {w : World} {g : Nat} {lo : Nat} (h : Rw w 0 g 131 [.slice none 0 0, .int .i64 lo, .int .i64 1]) (hlo : 1 ≤ lo) (hl2 : lo ≤ 100000000) :
    Calls Tryz.prog 71 #[.pointer (some ⟨g, 0, none⟩), .int .i64 1] w fun e w' => e = .returned (.slice none 0 0) ∧ Rw w' 0 g 131 [.slice none 0 0, .int .i64 lo, .int .i64 2] ∧ Kept (fun x => x = g) w w' := by
  have c0 : w.cell? ⟨g, 0, none⟩ = some (.slice none 0 0) := Rw.cell h rfl
  have c1 : w.cell? ⟨g, 1, none⟩ = some (.int .i64 lo) := Rw.cell h rfl
  have HST := Lib.hid (fun n => kstop_any (w := w.drewN n) (Rw.below h (below_draws (Below.refl _ _) ⟨n, rfl⟩)) 2)
  have q1 : ¬ ((lo : Int) < 1) := by omega
  have hw : IntKind.i64.wrap (0 + (lo : Int)) = (lo : Int) := by rw [Int.zero_add]; exact IntWalk.i64_in _ (by omega)
  have hw2 : wrap64 (lo : Int) = (lo : Int) := by unfold wrap64; omega
  clear h hlo hl2
  go_enter Tryz.func71, Tryz.ntmps71
  go_wp2_with fail
  go_quiet (fail)
  go_wp2_with fail
  refine (HST.out _).mono ?_
  rintro e w1 ⟨rfl, hr1, hk1⟩
  have c2 : w1.cell? ⟨g, 2, none⟩ = some (.int .i64 2) := Rw.cell hr1 rfl
  have HR1 := Lib.hid hr1
  have HK1 := Lib.hid (kept_then (kept_draw (kept_refl (fun x => x = g) w) ⟨_, rfl⟩) hk1 (fun _ hx => .inl hx))
  clear hr1 hk1 c0 c1 q1 hw hw2
  go_wp2_with fail
  go_ret
  exact ⟨rfl, HR1.out, HK1.out⟩

theorem knumber_none {w : World} {g : Nat} {lo : Nat} (h : Rw w 0 g 131 [.slice none 0 0, .int .i64 lo, .int .i64 1]) (hlo : 1 ≤ lo) (hl2 : lo ≤ 100000000) :
    Calls Tryz.prog 61 #[.pointer (some ⟨g, 0, none⟩)] w fun e w' => e = .returned (.int .i64 0) ∧ Rw w' 0 g 131 [.slice none 0 0, .int .i64 lo, .int .i64 2] ∧ Kept (fun x => x = g) w w' := by
  have HT := Lib.hid (ktake_none h hlo hl2)
  clear h hlo hl2
  go_enter Tryz.func61, Tryz.ntmps61
  go_wp2_with fail
  refine wp_loop_once ?_
  go_wp2_with fail
  refine (HT.out).mono ?_
  rintro e w1 ⟨rfl, hr1, hk1⟩
  have HR1 := Lib.hid hr1
  have HK1 := Lib.hid hk1
  clear hr1 hk1
  go_wp2_with fail
  go_ret
  exact ⟨rfl, HR1.out, HK1.out⟩

theorem kparse_none {w : World} {lo : Nat} (hlo : 1 ≤ lo) (hl2 : lo ≤ 100000000) {bv : Value} (hb : bv = .slice none 0 0) :
    Calls Tryz.prog 42 #[bv, .int .i64 lo] w fun e w' => e = .returned (.tuple #[.nilIface, .int .i64 2]) ∧ Below w.heap.size w w' := by
  subst hb
  have hr0 : Rw (w.alloc (.cells #[.slice none 0 0, .int .i64 lo, .int .i64 1] 131)) 0 w.heap.size 131 [.slice none 0 0, .int .i64 lo, .int .i64 1] := Rw.alloc w _ _ (Nat.zero_le _)
  have HNU := Lib.hid (knumber_none hr0 hlo hl2)
  clear hr0 hlo hl2
  go_enter Tryz.func42, Tryz.ntmps42
  go_wp2_with fail
  refine (HNU.out).mono ?_
  rintro e w1 ⟨rfl, hr1, hk1⟩
  have HST := Lib.hid (kstop_any hr1 3)
  have HK1 := Lib.hid hk1
  clear hr1 hk1
  go_wp2_with fail
  refine (HST.out).mono ?_
  rintro e w2 ⟨rfl, hr2, hk2⟩
  have c0 : w2.cell? ⟨w.heap.size, 0, none⟩ = some (.slice none 0 0) := Rw.cell hr2 rfl
  have c2 : w2.cell? ⟨w.heap.size, 2, none⟩ = some (.int .i64 2) := Rw.cell hr2 rfl
  have HKB := Lib.hid (below_kept (kept_then (kept_then (F := fun _ => False) (kept_below (below_more (Below.refl _ w) (.cells #[.slice none 0 0, .int .i64 lo, .int .i64 1] 131))) HK1.out (fun k hk => .inr (by omega))) hk2 (fun k hk => .inr (by omega))))
  clear hr2 hk2
  go_wp2_with fail
  go_region_law (fail)
  all_goals
    go_wp2_with fail
    go_ret2
    exact ⟨rfl, below_draws HKB.out ⟨1, rfl⟩⟩

theorem kgrow_none {w : World} : Calls Tryz.prog 59 #[.slice none 0 0, .int .i64 0] w fun e w' => e = .returned (.slice none 0 0) ∧ w' = w := by
  go_enter Tryz.func59, Tryz.ntmps59
  go_wp2_with fail
  go_ret
  exact ⟨rfl, rfl⟩

theorem kconcat_none {w : World} {b : Nat} (h : ∀ i, i < 2 → w.cell? ⟨b, i, none⟩ = some (.slice none 0 0)) :
    Calls Tryz.prog 40 #[.slice (some ⟨b, 0, none⟩) 2 2] w fun e w' => e = .returned (.slice none 0 0) ∧ Below w.heap.size w w' := by
  have H := Lib.hid h
  clear h
  go_enter Tryz.func40, Tryz.ntmps40
  go_wp2_with fail
  go_loop [3, 11] (fun sv iv => ∃ (i : Nat), i ≤ 2 ∧ iv = .int .i64 i ∧ sv = .int .i64 0) (fun _ iv => 2 - (intOf iv).toNat)
  case atStart => exact ⟨0, Nat.zero_le _, rfl, rfl⟩
  case round =>
    obtain ⟨i, hi', rfl, rfl⟩ := hrel
    by_cases hlt : i < 2
    · have d0 := H.out i hlt
      have hy : (i : Int) < 2 := by omega
      have HI := Lib.hid hlt
      clear hlt hi'
      go_wp2_with fail
      go_round
      case rel => exact ⟨i + 1, HI.out, by go_num, rfl⟩
      case measure => have := HI.out; simp [intOf]; omega
    · have hyk : ¬ (i : Int) < 2 := by omega
      clear hlt hi'
      go_wp2_with fail
      refine kgrow_none.mono ?_
      rintro e w1 ⟨rfl, rfl⟩
      go_wp2_with fail
      clear hyk
      obtain ⟨i0, hi0⟩ : ∃ i0, i0 = i := ⟨_, rfl⟩
      subst hi0
      go_loop [6, 27] (fun sv iv => ∃ (i : Nat), i ≤ 2 ∧ iv = .int .i64 i ∧ sv = .slice none 0 0) (fun _ iv => 2 - (intOf iv).toNat)
      case atStart => exact ⟨0, Nat.zero_le _, rfl, rfl⟩
      case round =>
        obtain ⟨i, hi', rfl, rfl⟩ := hrel
        by_cases hlt : i < 2
        · have d0 := H.out i hlt
          have hy : (i : Int) < 2 := by omega
          have HI := Lib.hid hlt
          clear hlt hi'
          go_wp2_with fail
          go_round
          case rel => exact ⟨i + 1, HI.out, by go_num, rfl⟩
          case measure => have := HI.out; simp [intOf]; omega
        · have hyk : ¬ (i : Int) < 2 := by omega
          clear hlt hi'
          go_wp2_with fail
          go_ret
          exact ⟨rfl, Below.refl _ _⟩

theorem ktear_none {w : World} {pv qv : Value} (hp : pv = .slice none 0 0) (hq : qv = .slice none 0 0) :
    Calls Tryz.prog 43 #[pv, qv] w fun e w' => e = .returned (.bool true) ∧ Below w.heap.size w w' := by
  subst hp hq
  have HL := fun W => Lib.hid (kleast_any (w := W))
  have HP := fun W => Lib.hid (kparse_none (w := W) (lo := 4194304) (by decide) (by decide) (bv := .slice none 0 0) rfl)
  go_enter Tryz.func43, Tryz.ntmps43
  go_wp2_with fail
  refine ((HL _).out).mono ?_
  rintro e w1 ⟨rfl, rfl⟩
  go_wp2_with fail
  have HC := Lib.hid (kconcat_none (w := w1.alloc (.cells #[.slice none 0 0, .slice none 0 0] 29)) (b := w1.heap.size) (fun i hi => by
    rw [cell_of_row _ _ _ _ _ _ (heap_alloc_new w1 _)]
    match i, hi with
    | 0, _ => rfl
    | 1, _ => rfl))
  refine (HC.out).mono ?_
  rintro e w2 ⟨rfl, hb2⟩
  have HB2 := Lib.hid (below_then (below_more (Below.refl _ w1) _) hb2)
  clear hb2
  go_wp2_with fail
  refine ((HP _).out).mono ?_
  rintro e w3 ⟨rfl, hb3⟩
  have HB3 := Lib.hid (below_then HB2.out hb3)
  clear hb3
  go_wp2_with fail
  go_ret
  exact ⟨rfl, HB3.out⟩

theorem kscan_none {w : World} : Calls Tryz.prog 41 #[.slice none 0 0] w fun e w' => e = .returned (.tuple #[.slice none 0 0, .int .i64 0, .int .i64 1]) ∧ w' = w := by
  go_enter Tryz.func41, Tryz.ntmps41
  go_wp2_with fail
  refine wp_loop_once ?_
  go_wp2_with fail
  go_ret3
  exact ⟨rfl, rfl⟩

theorem results_row_tmp2 {P : Program} {fn : Func} {p u y : Tmp} {ty : TypeId} (h : fn.results = #[.cell p ty, .tmp u, .tmp y]) (tmps : Array Value) (w : World) (g base : Nat) (t : TypeId) (xs : List Value) (d : TypeDesc)
    (hp : tmps.getD p undef = .pointer (some ⟨g, 0, none⟩)) (hg : Rw w base g t xs)
    (hu : P.underlying ty = some d) (hd : (match d with | .struct _ | .array _ _ => true | _ => false) = true) (hi : (P.info? ty).map (·.size) = some xs.length) (v v2 : Value) (hv : tmps.getD u undef = v) (hv2 : tmps.getD y undef = v2) :
    (results fn tmps).run P w = .ok (.tuple #[.agg xs.toArray, v, v2]) w := by
  have hl := run_loadVar_row (P := P) w g t ty xs.toArray (0, 0) d hg.2 hu hd (by simpa using hi)
  have hp' : tmps[p]?.getD undef = .pointer (some ⟨g, 0, none⟩) := by simpa using hp
  have hv' : tmps[u]?.getD undef = v := by simpa using hv
  have hv2' : tmps[y]?.getD undef = v2 := by simpa using hv2
  simp [results, h, hp', hv', hv2', asAddr, hl, Result.andThen]

theorem kload_none {w : World} : Calls Tryz.prog 24 #[.slice none 0 0] w fun e w' => e = .returned (.tuple #[.agg #[.int .i64 0, .int .i64 0, .int .i64 0, .int .i64 0, .slice none 0 0, .string ⟨#[]⟩, .slice none 0 0, .int .i64 0], .int .i64 0, .bool true]) ∧ Below w.heap.size w w' := by
  have HT := fun W => Lib.hid (ktear_none (w := W) (pv := .slice none 0 0) (qv := .slice none 0 0) rfl rfl)
  go_enter Tryz.func24, Tryz.ntmps24
  go_wp2_with fail
  refine kscan_none.mono ?_
  rintro e w1 ⟨rfl, rfl⟩
  go_wp2_with fail
  refine wp_loop_once ?_
  go_wp2_with fail
  refine ((HT _).out).mono ?_
  rintro e w2 ⟨rfl, hb2⟩
  have HR2 := Lib.hid (Rw.below (Rw.alloc w 53 #[.int .i64 0, .int .i64 0, .int .i64 0, .int .i64 0, .slice none 0 0, .string ⟨#[]⟩, .slice none 0 0, .int .i64 0] (Nat.zero_le w.heap.size)) hb2)
  have HB2 := Lib.hid (below_then (below_more (Below.refl _ w) _) hb2)
  have HL8 : Hid (0 + 8 ≤ [Value.int .i64 0, .int .i64 0, .int .i64 0, .int .i64 0, .slice none 0 0, .string ⟨#[]⟩, .slice none 0 0, .int .i64 0].length) := Lib.hid (by decide)
  clear hb2
  go_wp2_with (first | (refine wpList_load_mid rfl 53 _ rfl w.heap.size 0 rfl [.int .i64 0, .int .i64 0, .int .i64 0, .int .i64 0, .slice none 0 0, .string ⟨#[]⟩, .slice none 0 0, .int .i64 0] _ (Rw.whole HR2.out) Tryz.underlying53 rfl Tryz.sizeState ?_) | (refine wpList_store_mid rfl 53 _ _ rfl w.heap.size 0 #[.int .i64 0, .int .i64 0, .int .i64 0, .int .i64 0, .slice none 0 0, .string ⟨#[]⟩, .slice none 0 0, .int .i64 0] rfl rfl (Rw.there HR2.out 0 8 HL8.out) Tryz.sizeState (st_one _ _ _ _ _ _ _ _ _ _ _ _) ?_) | fail)
  have hend := Rw.storedAll HR2.out [.int .i64 0, .int .i64 0, .int .i64 0, .int .i64 0, .slice none 0 0, .string ⟨#[]⟩, .slice none 0 0, .int .i64 0] rfl
  have HB4 := Lib.hid (below_setCells (g := w.heap.size) (Nat.le_refl _) [.int .i64 0, .int .i64 0, .int .i64 0, .int .i64 0, .slice none 0 0, .string ⟨#[]⟩, .slice none 0 0, .int .i64 0] 0 _ HB2.out)
  refine bodyPost_ret (v := .tuple #[.agg #[.int .i64 0, .int .i64 0, .int .i64 0, .int .i64 0, .slice none 0 0, .string ⟨#[]⟩, .slice none 0 0, .int .i64 0], .int .i64 0, .bool true]) ?_ rfl ⟨rfl, HB4.out⟩
  exact results_row_tmp2 rfl _ _ w.heap.size 0 _ _ _ rfl hend Tryz.underlying53 rfl Tryz.sizeState _ _ rfl rfl

end Go.Proofs.YtageldnhchgplaaGreatDoor
