/- Contracts: the code's net: twin, Peek, double, Twice. -/
import Derived.BigRegion
import Derived.Deep.RegionHeld3
import Derived.Test.YtneomfhlkdpnjaaProg
import Derived.Test.YtneomfhlkdpnjaaKit
import Derived.Test.YtneomfhlkdpnjaaRow
import Derived.Test.YtneomfhlkdpnjaaCod7
import Derived.Test.YtneomfhlkdpnjaaCod9
import Derived.Test.YtneomfhlkdpnjaaTxt2
import Derived.Test.YtneomfhlkdpnjaaNet0
import Derived.Test.YtneomfhlkdpnjaaNet1
import Derived.Test.YtneomfhlkdpnjaaNet2
namespace Go.Proofs.Ytneomfhlkdpnjaa
open Go.RowKit Go.Proofs

def zeroPk : Value := .agg #[.int .i64 0, .int .i64 0, .slice none 0 0]

theorem pk_back {w : World} {W : World} {f t : Int} {a : Option Addr} {n c : Nat} (h : Rw W 0 w.heap.size 52 [.int .i64 0, .int .i64 0, .slice none 0 0]) (hb : Below w.heap.size w W) :
    Rw (W.setCells w.heap.size 0 [.int .i64 f, .int .i64 t, .slice a n c]) 0 w.heap.size 52 [.int .i64 f, .int .i64 t, .slice a n c] ∧ Below w.heap.size w (W.setCells w.heap.size 0 [.int .i64 f, .int .i64 t, .slice a n c]) :=
  ⟨Rw.storedAll h _ rfl, below_setCells (Nat.le_refl _) _ _ _ hb⟩

theorem own_set {w W : World} {f t : Int} {u x : Value} {n : Nat} {xs cs : List Value} (ho : W.ownsRow w.heap.size 5 1 x n xs) (hr : Rw W 0 w.heap.size 52 cs) : (W.setCells w.heap.size 0 [.int .i64 f, .int .i64 t, u]).ownsRow w.heap.size 5 1 x n xs :=
  own_same ho (fun k hk => setCells_heap _ _ _ _ _ (by rintro rfl; exact own_rw ho hr (by decide) hk))

set_option maxRecDepth 100000 in
theorem twin_any {w : World} {g : Nat} {v : Value} {rs : List RecP} (h : NetAt 93 w g v rs) {k : Nat} {r : RecP} (hk : rs[k]? = some r) :
    Calls Try.prog 58 #[.pointer (some ⟨g, 0, none⟩), .int .i64 k] w fun e w' => ∃ a c, e = .returned (.agg #[.int .i64 r.p.f, .int .i64 r.p.t, .slice a r.p.b.length c]) ∧
      w'.ownsRow w.heap.size 5 1 (.slice a r.p.b.length c) r.p.b.length (r.p.b.map byteV) ∧ Below w.heap.size w w' := by
  have hbA : Below w.heap.size w (w.alloc (.cells #[.int .i64 0, .int .i64 0, .slice none 0 0] 52)) := below_more (Below.refl _ _) _
  have hA := netAt_below h hbA
  have hzr : Rw (w.alloc (.cells #[.int .i64 0, .int .i64 0, .slice none 0 0] 52)) 0 w.heap.size 52 [.int .i64 0, .int .i64 0, .slice none 0 0] := Rw.alloc w _ _ (Nat.zero_le _)
  have hkl : k < rs.length := (List.getElem?_eq_some_iff.1 hk).1
  obtain ⟨gr, c, rfl, hc, hrange⟩ := ownP_range hA.2.1 hk
  have hbyt := hA.2.2 r (List.mem_of_getElem? hk)
  obtain ⟨⟨f, t, b⟩, u⟩ := r
  dsimp only at hrange hbyt ⊢
  have hown : (w.alloc (.cells #[.int .i64 0, .int .i64 0, .slice none 0 0] 52)).ownsRow 0 5 1 u b.length (b.map byteV) := hbyt.1
  have hcl := pclone_any f t b u _ (own_sl hown) (by have h2 := hbyt.2; dsimp only at h2; omega)
  obtain ⟨ua, uc, rfl⟩ := own_len hown
  have cg : (w.alloc (.cells #[.int .i64 0, .int .i64 0, .slice none 0 0] 52)).cell? ⟨g, 0, none⟩ = some (.slice (some ⟨gr, 0, none⟩) rs.length c) := Rw.cell hA.1 rfl
  have d0 : (w.alloc (.cells #[.int .i64 0, .int .i64 0, .slice none 0 0] 52)).cell? ⟨gr, k * 3, none⟩ = some (.int .i64 f) := hrange 0 _ rfl
  have d1 : (w.alloc (.cells #[.int .i64 0, .int .i64 0, .slice none 0 0] 52)).cell? ⟨gr, k * 3 + 1, none⟩ = some (.int .i64 t) := hrange 1 _ rfl
  have d2 : (w.alloc (.cells #[.int .i64 0, .int .i64 0, .slice none 0 0] 52)).cell? ⟨gr, k * 3 + 2, none⟩ = some (.slice ua b.length uc) := hrange 2 _ rfl
  have hy : (k : Int) < (rs.length : Int) := by omega
  obtain ⟨n, hnn⟩ : ∃ n, n = rs.length := ⟨_, rfl⟩
  rw [← hnn] at cg hy
  have hz := zero_cells Try.infoPkz
  have HCL := Lib.hid hcl
  have HBA := Lib.hid hbA
  have HZR := Lib.hid hzr
  clear h hbA hA hzr hbyt hown hcl hrange hk hnn hkl hc
  go_enter Try.func58, Try.ntmps58
  go_wp2_with (first | (refine wpList_alloc_z rfl 52 rfl #[.int .i64 0, .int .i64 0, .slice none 0 0] hz ?_) | fail)
  refine (HCL.out).mono ?_
  rintro e w2 ⟨u', rfl, ho, hb2⟩
  obtain ⟨va, vc, rfl⟩ := own_len ho
  have hr2 := Rw.below HZR.out hb2
  have hb02 := HBA.out.trans (hb2.mono HBA.out.size)
  have HTH := Lib.hid (Rw.there hr2 0 3 (Nat.le_refl _))
  have HR2 := Lib.hid hr2
  have HB02 := Lib.hid hb02
  have HO := Lib.hid (own_mono (base := w.heap.size) ho HBA.out.size)
  clear hr2 hb02 ho hb2 cg d0 d1 d2
  go_wp2_with (first | (refine wpList_store_mid rfl 52 (.tmp 4) (.tmp 12) rfl w.heap.size 0 #[.int .i64 f, .int .i64 t, .slice va b.length vc] rfl rfl HTH.out Try.infoPk (pk_one _ _ _ _ _) ?_) | fail)
  obtain ⟨hend, hbe⟩ := pk_back (f := f) (t := t) (a := va) (n := b.length) (c := vc) HR2.out HB02.out
  refine bodyPost_ret (v := .agg #[.int .i64 f, .int .i64 t, .slice va b.length vc]) ?_ rfl ⟨va, vc, rfl, own_set HO.out HR2.out, hbe⟩
  exact results_cell_row rfl _ _ w.heap.size _ _ _ _ rfl hend.2 Try.underlying52 rfl Try.infoPk

theorem inNB_of {k : Int} {n : Nat} (h : inNB k n = true) : ∃ j : Nat, k = (j : Int) ∧ j < n := by
  unfold inNB at h
  rw [Bool.and_eq_true, decide_eq_true_eq, decide_eq_true_eq] at h
  exact ⟨k.toNat, by omega, by omega⟩

theorem inNB_not {j n : Nat} (h : j < n) : inNB (j : Int) n = true := by
  unfold inNB
  rw [Bool.and_eq_true, decide_eq_true_eq, decide_eq_true_eq]
  omega

set_option maxRecDepth 100000 in
theorem peek_no {w : World} {g : Nat} {v : Value} {rs : List RecP} (h : NetAt 93 w g v rs) {k : Int} (hk : inNB k rs.length = false) :
    Calls Try.prog 23 #[.pointer (some ⟨g, 0, none⟩), .int .i64 k] w fun e w' => e = .returned (.tuple #[zeroPk, .bool false]) ∧ Below w.heap.size w w' := by
  have hbA : Below w.heap.size w (w.alloc (.cells #[.int .i64 0, .int .i64 0, .slice none 0 0] 52)) := below_more (Below.refl _ _) _
  have hhas := has_any (netAt_below h hbA) k
  rw [hk] at hhas
  have hzr : Rw (w.alloc (.cells #[.int .i64 0, .int .i64 0, .slice none 0 0] 52)) 0 w.heap.size 52 [.int .i64 0, .int .i64 0, .slice none 0 0] := Rw.alloc w _ _ (Nat.zero_le _)
  have hz := zero_cells Try.infoPkz
  have HH := Lib.hid hhas
  have HBA := Lib.hid hbA
  have HZR := Lib.hid hzr
  have HTH := Lib.hid (Rw.there hzr 0 3 (Nat.le_refl _))
  clear h hbA hhas hzr hk
  go_enter Try.func23, Try.ntmps23
  go_wp2_with (first | (refine wpList_alloc_z rfl 52 rfl #[.int .i64 0, .int .i64 0, .slice none 0 0] hz ?_) | fail)
  refine (HH.out).mono ?_
  rintro e w2 ⟨rfl, rfl⟩
  go_wp2_with (first | (refine wpList_store_mid rfl 52 (.tmp 4) (.tmp 10) rfl w.heap.size 0 #[.int .i64 0, .int .i64 0, .slice none 0 0] rfl rfl HTH.out Try.infoPk (pk_one _ _ _ _ _) ?_) | fail)
  obtain ⟨hend, hbe⟩ := pk_back (f := 0) (t := 0) (a := none) (n := 0) (c := 0) HZR.out HBA.out
  refine bodyPost_ret (v := .tuple #[zeroPk, .bool false]) ?_ rfl ⟨rfl, hbe⟩
  exact results_row_tmp rfl _ _ w.heap.size 0 _ [.int .i64 0, .int .i64 0, .slice none 0 0] _ rfl hend Try.underlying52 rfl Try.infoPk _ rfl

set_option maxRecDepth 100000 in
theorem peek_yes {w : World} {g : Nat} {v : Value} {rs : List RecP} (h : NetAt 93 w g v rs) {k : Nat} {r : RecP} (hk : rs[k]? = some r) :
    Calls Try.prog 23 #[.pointer (some ⟨g, 0, none⟩), .int .i64 k] w fun e w' => ∃ a c, e = .returned (.tuple #[.agg #[.int .i64 r.p.f, .int .i64 r.p.t, .slice a r.p.b.length c], .bool true]) ∧
      w'.ownsRow w.heap.size 5 1 (.slice a r.p.b.length c) r.p.b.length (r.p.b.map byteV) ∧ Below w.heap.size w w' := by
  have hbA : Below w.heap.size w (w.alloc (.cells #[.int .i64 0, .int .i64 0, .slice none 0 0] 52)) := below_more (Below.refl _ _) _
  have hA := netAt_below h hbA
  have hhas := has_any hA (k : Int)
  rw [inNB_not (List.getElem?_eq_some_iff.1 hk).1] at hhas
  have hzr : Rw (w.alloc (.cells #[.int .i64 0, .int .i64 0, .slice none 0 0] 52)) 0 w.heap.size 52 [.int .i64 0, .int .i64 0, .slice none 0 0] := Rw.alloc w _ _ (Nat.zero_le _)
  have hz := zero_cells Try.infoPkz
  have HH := Lib.hid hhas
  have HTW := Lib.hid (twin_any hA hk)
  have HBA := Lib.hid hbA
  have HZR := Lib.hid hzr
  obtain ⟨⟨f, t, b⟩, u⟩ := r
  dsimp only at HTW ⊢
  clear h hA hbA hhas hzr hk
  go_enter Try.func23, Try.ntmps23
  go_wp2_with (first | (refine wpList_alloc_z rfl 52 rfl #[.int .i64 0, .int .i64 0, .slice none 0 0] hz ?_) | fail)
  refine (HH.out).mono ?_
  rintro e w2 ⟨rfl, hw2⟩
  cases hw2.symm
  go_wp2_with fail
  refine (HTW.out).mono ?_
  rintro e w3 ⟨va, vc, rfl, ho, hb3⟩
  have hr3 := Rw.below HZR.out hb3
  have hb03 := HBA.out.trans (hb3.mono HBA.out.size)
  have HTH := Lib.hid (Rw.there hr3 0 3 (Nat.le_refl _))
  have HR3 := Lib.hid hr3
  have HB03 := Lib.hid hb03
  have HO := Lib.hid (own_mono (base := w.heap.size) ho HBA.out.size)
  clear hr3 hb03 ho hb3
  go_wp2_with (first | (refine wpList_store_mid rfl 52 (.tmp 4) (.tmp 15) rfl w.heap.size 0 #[.int .i64 f, .int .i64 t, .slice va b.length vc] rfl rfl HTH.out Try.infoPk (pk_one _ _ _ _ _) ?_) | fail)
  obtain ⟨hend, hbe⟩ := pk_back (f := f) (t := t) (a := va) (n := b.length) (c := vc) HR3.out HB03.out
  refine bodyPost_ret (v := .tuple #[.agg #[.int .i64 f, .int .i64 t, .slice va b.length vc], .bool true]) ?_ rfl ⟨va, vc, rfl, own_set HO.out HR3.out, hbe⟩
  exact results_row_tmp rfl _ _ w.heap.size 0 _ [.int .i64 f, .int .i64 t, .slice va b.length vc] _ rfl hend Try.underlying52 rfl Try.infoPk _ rfl

end Go.Proofs.Ytneomfhlkdpnjaa
