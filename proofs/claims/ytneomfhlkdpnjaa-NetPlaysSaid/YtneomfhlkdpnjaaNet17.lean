/- Contracts: the code's net: Clear. -/
import Derived.BigRegion
import Derived.Deep.RegionHeld3
import Derived.Test.YtneomfhlkdpnjaaProg
import Derived.Test.YtneomfhlkdpnjaaKit
import Derived.Test.YtneomfhlkdpnjaaRow
import Derived.Test.YtneomfhlkdpnjaaCod7
import Derived.Test.YtneomfhlkdpnjaaDsk6
import Derived.Test.YtneomfhlkdpnjaaNet0
import Derived.Test.YtneomfhlkdpnjaaNet1
import Derived.Test.YtneomfhlkdpnjaaNet10
import Derived.Test.YtneomfhlkdpnjaaNet12
import Derived.Test.YtneomfhlkdpnjaaNet14
import Derived.Test.YtneomfhlkdpnjaaNet15
import Derived.Test.YtneomfhlkdpnjaaNet16
namespace Go.Proofs.Ytneomfhlkdpnjaa
open Go.RowKit Go.Proofs

set_option maxRecDepth 100000 in
set_option maxHeartbeats 1000000 in
theorem nlose_any {w : World} {g : Nat} {v : Value} {rs : List RecP} (h : NetAt 93 w g v rs) (k : Int) (hn : rs.length ≤ 64) :
    Calls Try.prog 57 #[.pointer (some ⟨g, 0, none⟩), .int .i64 k] w fun e w' => e = .returned (.tuple #[]) ∧ NetV 93 w w' g v (keepM k rs) := by
  have H := Lib.hid h
  have hb1 := below_more (Below.refl w.heap.size w) (.cells #[.int .i64 k] 3)
  have hA := netAt_below h hb1
  have hone : ∀ r ∈ rs, ∃ a n c, r.u = .slice a n c := fun r hr => by
    obtain ⟨a, c, hu⟩ := own_len (h.2.2 r hr).1
    exact ⟨a, _, c, hu⟩
  have HDF := Lib.hid (delfunc_any hA.2.1 hone (gb := w.heap.size) (k := k) (Rw.alloc w _ _ (Nat.zero_le _)) hn)
  have cg : (w.alloc (.cells #[.int .i64 k] 3)).cell? ⟨g, 0, none⟩ = some v := Rw.cell hA.1 rfl
  have HB1 := Lib.hid hb1
  have HA := Lib.hid hA
  clear h hA hone hb1 hn
  go_enter Try.func57, Try.ntmps57
  go_wp2_with fail
  refine (HDF.out).mono ?_
  rintro e w2 ⟨v', rfl, ho2, hob, hk2⟩
  have hT := take_end (hs := w.heap.size) (ys := []) (by decide) (by decide) H.out (fun r hr => (List.mem_filter.1 hr).1) (Nat.le_refl _) HB1.out ho2 hob hk2
  have HT := Lib.hid hT
  have hgv : v.ownBlock ≠ some g := own_rw H.out.2.1 H.out.1 (by decide)
  have hg2 := rw_kept HA.out.1 hk2 hgv
  have cg2 : w2.cell? ⟨g, 0, none⟩ = some v := Rw.cell hg2 rfl
  have fg2 := Rw.free hg2 0
  obtain ⟨va, vc, hv'⟩ := own_len ho2
  obtain ⟨vn, hvn⟩ : ∃ vn, vn = (keepM k rs).length := ⟨_, rfl⟩
  rw [← hvn] at hv'
  subst hv'
  clear hT hgv hg2 ho2 hob hk2 hvn cg HDF
  go_wp2_with fail
  go_end0
  exact ⟨rfl, HT.out⟩

theorem nclear_any {w : World} {g : Nat} {v : Value} {rs : List RecP} (h : NetAt 93 w g v rs) (k : Int) (hn : rs.length ≤ 64) :
    Calls Try.prog 21 #[.pointer (some ⟨g, 0, none⟩), .int .i64 k] w fun e w' => (∃ q : Nat, e = .returned (.int .i64 q) ∧ q + (keepM k rs).length = rs.length) ∧ NetV 93 w w' g v (keepM k rs) := by
  have HS := Lib.hid (qsize_any h)
  have HL := Lib.hid (nlose_any h k hn)
  have hle : (keepM k rs).length ≤ rs.length := List.length_filter_le _ _
  obtain ⟨n, hnn⟩ : ∃ n, n = rs.length := ⟨_, rfl⟩
  rw [← hnn] at HS hle hn ⊢
  clear h hnn
  go_enter Try.func21, Try.ntmps21
  go_wp2_with fail
  refine (HS.out).mono ?_
  rintro e w1 ⟨rfl, hw1⟩
  cases hw1
  go_wp2_with fail
  refine (HL.out).mono ?_
  rintro e w2 ⟨rfl, hv2⟩
  have HV := Lib.hid hv2
  have HS2 : Hid (Calls Try.prog 56 #[.pointer (some ⟨g, 0, none⟩)] w2 fun e w' => e = .returned (.int .i64 (keepM k rs).length) ∧ w' = w2) := Lib.hid (by
    obtain ⟨v', h1, _⟩ := hv2
    exact qsize_any h1)
  obtain ⟨m, hm⟩ : ∃ m, m = (keepM k rs).length := ⟨_, rfl⟩
  rw [← hm] at HS2 hle
  obtain ⟨q, hq⟩ : ∃ q : Nat, (n : Int) - (m : Int) = (q : Int) := ⟨n - m, by omega⟩
  have HQ : Hid (q + (keepM k rs).length = n) := Lib.hid (by omega)
  have hn64 : (n : Int) ≤ 64 := by omega
  have hm64 : (m : Int) ≤ 64 := by omega
  clear hv2 hm hle hn HS HL
  go_wp2_with fail
  refine (HS2.out).mono ?_
  rintro e w3 ⟨rfl, hw3⟩
  cases hw3
  go_wp2_with fail
  go_ret
  exact ⟨⟨q, rfl, HQ.out⟩, HV.out⟩

def leftM (k : Int) (ps : List PkM) : List PkM := ps.filter (fun p => !isM k p)

theorem keepM_map (k : Int) (rs : List RecP) : (keepM k rs).map (·.p) = leftM k (rs.map (·.p)) := by
  unfold keepM leftM
  rw [List.filter_map]
  rfl

theorem nin_clear {w0 w : World} {Z : Nat → Prop} {g : Nat} {ps : List PkM} (h : NIn w0 w Z g ps) (k : Int) (hl : ps.length ≤ 64) :
    Calls Try.prog 21 #[.pointer (some ⟨g, 0, none⟩), .int .i64 k] w fun e w' => (∃ q : Nat, e = .returned (.int .i64 q) ∧ q + (leftM k ps).length = ps.length) ∧ NIn w0 w' Z g (leftM k ps) ∧ Stay w w' Z := by
  obtain ⟨v, rs, h1, rfl, h3, h4, h5, h6⟩ := h
  refine (nclear_any h1 k (by simpa using hl)).mono ?_
  rintro e w' ⟨⟨q, rfl, hq⟩, hV⟩
  have hs := nin_step h1 h3 h4 h5 h6 (fun r hr => .inl (List.mem_filter.1 hr).1) hV (keepM_map k rs)
  refine ⟨⟨q, rfl, ?_⟩, hs.1, hs.2⟩
  rw [← keepM_map, List.length_map, List.length_map]
  exact hq

end Go.Proofs.Ytneomfhlkdpnjaa
