/- Contracts: the reference net: Peek. -/
import Derived.BigRegion
import Derived.Deep.RegionHeld3
import Derived.Test.YtneomfhlkdpnjaaProg
import Derived.Test.YtneomfhlkdpnjaaKit
import Derived.Test.YtneomfhlkdpnjaaRow
import Derived.Test.YtneomfhlkdpnjaaCod7
import Derived.Test.YtneomfhlkdpnjaaTxt2
import Derived.Test.YtneomfhlkdpnjaaNet0
import Derived.Test.YtneomfhlkdpnjaaNet1
import Derived.Test.YtneomfhlkdpnjaaNet2
import Derived.Test.YtneomfhlkdpnjaaNet6
namespace Go.Proofs.Ytneomfhlkdpnjaa
open Go.RowKit Go.Proofs

set_option maxRecDepth 100000 in
theorem rpeek_no {w : World} {g : Nat} {v : Value} {rs : List RecP} (h : NetAt 45 w g v rs) {k : Int} (hk : inNB k rs.length = false) :
    Calls Try.prog 24 #[.pointer (some ⟨g, 0, none⟩), .int .i64 k] w fun e w' => e = .returned (.tuple #[zeroPk, .bool false]) ∧ Below w.heap.size w w' := by
  have hbA : Below w.heap.size w (w.alloc (.cells #[.int .i64 0, .int .i64 0, .slice none 0 0] 52)) := below_more (Below.refl _ _) _
  have hA := netAt_below h hbA
  have cg : (w.alloc (.cells #[.int .i64 0, .int .i64 0, .slice none 0 0] 52)).cell? ⟨g, 0, none⟩ = some v := Rw.cell hA.1 rfl
  obtain ⟨va, vc, rfl⟩ := own_len h.2.1
  have hzr : Rw (w.alloc (.cells #[.int .i64 0, .int .i64 0, .slice none 0 0] 52)) 0 w.heap.size 52 [.int .i64 0, .int .i64 0, .slice none 0 0] := Rw.alloc w _ _ (Nat.zero_le _)
  have hz := zero_cells Try.infoPkz
  obtain ⟨n, hnn⟩ : ∃ n, n = rs.length := ⟨_, rfl⟩
  rw [← hnn] at cg hk
  have HBA := Lib.hid hbA
  have HZR := Lib.hid hzr
  have HTH := Lib.hid (Rw.there hzr 0 3 (Nat.le_refl _))
  obtain ⟨hend, hbe⟩ := pk_back (f := 0) (t := 0) (a := none) (n := 0) (c := 0) HZR.out HBA.out
  have HEND := Lib.hid hend
  have HBE := Lib.hid hbe
  clear h hA hbA hzr hnn hend hbe
  unfold inNB at hk
  by_cases h1 : k < 0
  · clear hk
    go_enter Try.func24, Try.ntmps24
    go_wp2_with (first | (refine wpList_alloc_z rfl 52 rfl #[.int .i64 0, .int .i64 0, .slice none 0 0] hz ?_) | (refine wpList_store_mid rfl 52 (.tmp 4) (.tmp 17) rfl w.heap.size 0 #[.int .i64 0, .int .i64 0, .slice none 0 0] rfl rfl HTH.out Try.infoPk (pk_one _ _ _ _ _) ?_) | fail)
    refine bodyPost_ret (v := .tuple #[zeroPk, .bool false]) ?_ rfl ⟨rfl, HBE.out⟩
    exact results_row_tmp rfl _ _ w.heap.size 0 _ [.int .i64 0, .int .i64 0, .slice none 0 0] _ rfl HEND.out Try.underlying52 rfl Try.infoPk _ rfl
  · have h2 : decide ((n : Int) ≤ k) = true := by
      rw [decide_eq_true (by omega : 0 ≤ k), Bool.true_and, decide_eq_false_iff_not] at hk
      exact decide_eq_true (by omega)
    clear hk
    go_enter Try.func24, Try.ntmps24
    go_wp2_with (first | (refine wpList_alloc_z rfl 52 rfl #[.int .i64 0, .int .i64 0, .slice none 0 0] hz ?_) | (refine wpList_store_mid rfl 52 (.tmp 4) (.tmp 17) rfl w.heap.size 0 #[.int .i64 0, .int .i64 0, .slice none 0 0] rfl rfl HTH.out Try.infoPk (pk_one _ _ _ _ _) ?_) | fail)
    refine bodyPost_ret (v := .tuple #[zeroPk, .bool false]) ?_ rfl ⟨rfl, HBE.out⟩
    exact results_row_tmp rfl _ _ w.heap.size 0 _ [.int .i64 0, .int .i64 0, .slice none 0 0] _ rfl HEND.out Try.underlying52 rfl Try.infoPk _ rfl

set_option maxRecDepth 100000 in
theorem rpeek_yes {w : World} {g : Nat} {v : Value} {rs : List RecP} (h : NetAt 45 w g v rs) {k : Nat} {r : RecP} (hk : rs[k]? = some r) :
    Calls Try.prog 24 #[.pointer (some ⟨g, 0, none⟩), .int .i64 k] w fun e w' => ∃ a c, r.u = .slice a r.p.b.length c ∧ e = .returned (.tuple #[.agg #[.int .i64 r.p.f, .int .i64 r.p.t, .slice a r.p.b.length c], .bool true]) ∧ Below w.heap.size w w' := by
  have hbA : Below w.heap.size w (w.alloc (.cells #[.int .i64 0, .int .i64 0, .slice none 0 0] 52)) := below_more (Below.refl _ _) _
  have hA := netAt_below h hbA
  obtain ⟨ua, uc, hu⟩ := own_len (h.2.2 r (List.mem_of_getElem? hk)).1
  have hkl : k < rs.length := (List.getElem?_eq_some_iff.1 hk).1
  obtain ⟨gr, c, rfl, hc, hrange⟩ := ownP_range hA.2.1 hk
  obtain ⟨⟨f, t, b⟩, u⟩ := r
  dsimp only at hrange hu ⊢
  subst hu
  have cg : (w.alloc (.cells #[.int .i64 0, .int .i64 0, .slice none 0 0] 52)).cell? ⟨g, 0, none⟩ = some (.slice (some ⟨gr, 0, none⟩) rs.length c) := Rw.cell hA.1 rfl
  have d0 : (w.alloc (.cells #[.int .i64 0, .int .i64 0, .slice none 0 0] 52)).cell? ⟨gr, k * 3, none⟩ = some (.int .i64 f) := hrange 0 _ rfl
  have d1 : (w.alloc (.cells #[.int .i64 0, .int .i64 0, .slice none 0 0] 52)).cell? ⟨gr, k * 3 + 1, none⟩ = some (.int .i64 t) := hrange 1 _ rfl
  have d2 : (w.alloc (.cells #[.int .i64 0, .int .i64 0, .slice none 0 0] 52)).cell? ⟨gr, k * 3 + 2, none⟩ = some (.slice ua b.length uc) := hrange 2 _ rfl
  obtain ⟨n, hnn⟩ : ∃ n, n = rs.length := ⟨_, rfl⟩
  rw [← hnn] at cg
  have h2 : decide ((n : Int) ≤ (k : Int)) = false := decide_eq_false (by omega)
  have hy : (k : Int) < (n : Int) := by omega
  have hzr : Rw (w.alloc (.cells #[.int .i64 0, .int .i64 0, .slice none 0 0] 52)) 0 w.heap.size 52 [.int .i64 0, .int .i64 0, .slice none 0 0] := Rw.alloc w _ _ (Nat.zero_le _)
  have hz := zero_cells Try.infoPkz
  have HTH := Lib.hid (Rw.there hzr 0 3 (Nat.le_refl _))
  obtain ⟨hend, hbe⟩ := pk_back (f := f) (t := t) (a := ua) (n := b.length) (c := uc) hzr hbA
  have HEND := Lib.hid hend
  have HBE := Lib.hid hbe
  clear h hA hbA hzr hnn hend hbe hrange hk hkl hc
  go_enter Try.func24, Try.ntmps24
  go_wp2_with (first | (refine wpList_alloc_z rfl 52 rfl #[.int .i64 0, .int .i64 0, .slice none 0 0] hz ?_) | (refine wpList_store_mid rfl 52 (.tmp 4) (.tmp 24) rfl w.heap.size 0 #[.int .i64 f, .int .i64 t, .slice ua b.length uc] rfl rfl HTH.out Try.infoPk (pk_one _ _ _ _ _) ?_) | fail)
  refine bodyPost_ret (v := .tuple #[.agg #[.int .i64 f, .int .i64 t, .slice ua b.length uc], .bool true]) ?_ rfl ⟨ua, uc, rfl, rfl, HBE.out⟩
  exact results_row_tmp rfl _ _ w.heap.size 0 _ [.int .i64 f, .int .i64 t, .slice ua b.length uc] _ rfl HEND.out Try.underlying52 rfl Try.infoPk _ rfl

end Go.Proofs.Ytneomfhlkdpnjaa
