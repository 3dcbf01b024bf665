/- Contracts: the code's net: double, Twice. -/
import Derived.BigRegion
import Derived.Deep.RegionHeld3
import Derived.Test.YtneomfhlkdpnjaaProg
import Derived.Test.YtneomfhlkdpnjaaKit
import Derived.Test.YtneomfhlkdpnjaaRow
import Derived.Test.YtneomfhlkdpnjaaCod7
import Derived.Test.YtneomfhlkdpnjaaCod9
import Derived.Test.YtneomfhlkdpnjaaNet0
import Derived.Test.YtneomfhlkdpnjaaNet1
import Derived.Test.YtneomfhlkdpnjaaNet4
import Derived.Test.YtneomfhlkdpnjaaNet6
namespace Go.Proofs.Ytneomfhlkdpnjaa
open Go.RowKit Go.Proofs

set_option maxRecDepth 100000 in
theorem double_any {w : World} {g : Nat} {v : Value} {rs : List RecP} (h : NetAt 93 w g v rs) {k : Nat} {r : RecP} (hk : rs[k]? = some r) (hn : rs.length < 1000000) :
    Calls Try.prog 55 #[.pointer (some ⟨g, 0, none⟩), .int .i64 k] w fun e w' => e = .returned (.tuple #[]) ∧ ∃ u', (∀ k, u'.ownBlock = some k → w.heap.size ≤ k) ∧ NetV 93 w w' g v (rs ++ [⟨r.p, u'⟩]) := by
  have hkl : k < rs.length := (List.getElem?_eq_some_iff.1 hk).1
  have hbyt := h.2.2 r (List.mem_of_getElem? hk)
  have hadd := add_any h r.p r.u (own_sl hbyt.1) hbyt.2 hn
  have HADD := Lib.hid hadd
  obtain ⟨gr, c, rfl, hc, hrange⟩ := ownP_range h.2.1 hk
  have hown := hbyt.1
  obtain ⟨⟨f, t, b⟩, u⟩ := r
  dsimp only at hrange hown HADD ⊢
  obtain ⟨ua, uc, rfl⟩ := own_len hown
  have cg : w.cell? ⟨g, 0, none⟩ = some (.slice (some ⟨gr, 0, none⟩) rs.length c) := Rw.cell h.1 rfl
  have d0 : w.cell? ⟨gr, k * 3, none⟩ = some (.int .i64 f) := hrange 0 _ rfl
  have d1 : w.cell? ⟨gr, k * 3 + 1, none⟩ = some (.int .i64 t) := hrange 1 _ rfl
  have d2 : w.cell? ⟨gr, k * 3 + 2, none⟩ = some (.slice ua b.length uc) := hrange 2 _ rfl
  have hy : (k : Int) < (rs.length : Int) := by omega
  obtain ⟨n, hnn⟩ : ∃ n, n = rs.length := ⟨_, rfl⟩
  rw [← hnn] at cg hy
  have HNN := Lib.hid hnn
  clear h hbyt hadd hrange hown hk hnn hn hkl hc
  go_enter Try.func55, Try.ntmps55
  go_wp2_with fail
  refine (HADD.out).mono ?_
  rintro e w2 ⟨rfl, u', hu, hv⟩
  have HU := Lib.hid hu
  have HV := Lib.hid hv
  clear hu hv cg d0 d1 d2
  go_wp2_with fail
  go_end0
  exact ⟨rfl, u', HU.out, HV.out⟩

theorem ntwice_no {w : World} {g : Nat} {v : Value} {rs : List RecP} (h : NetAt 93 w g v rs) {k : Int} (hk : inNB k rs.length = false ∨ ¬ rs.length < 64) :
    Calls Try.prog 19 #[.pointer (some ⟨g, 0, none⟩), .int .i64 k] w fun e w' => e = .returned (.bool false) ∧ w' = w := by
  have hhas := has_any h k
  have hfull := qfull_any h
  have HF := Lib.hid hfull
  obtain ⟨bh, hbh⟩ : ∃ bh, bh = inNB k rs.length := ⟨_, rfl⟩
  rw [← hbh] at hhas hk
  have HH := Lib.hid hhas
  clear hhas hfull hbh
  cases bh with
  | false =>
    clear hk
    go_enter Try.func19, Try.ntmps19
    go_wp2_with fail
    refine (HH.out).mono ?_
    rintro e w2 ⟨rfl, hw2⟩
    cases hw2.symm
    go_wp2_with fail
    go_ret
    exact ⟨rfl, rfl⟩
  | true =>
    have h64 := hk.resolve_left (by decide)
    rw [decide_eq_false h64] at HF
    clear hk h64
    go_enter Try.func19, Try.ntmps19
    go_wp2_with fail
    refine (HH.out).mono ?_
    rintro e w2 ⟨rfl, hw2⟩
    cases hw2.symm
    go_wp2_with fail
    refine (HF.out).mono ?_
    rintro e w2 ⟨rfl, hw2⟩
    cases hw2.symm
    go_wp2_with fail
    go_ret
    exact ⟨rfl, rfl⟩

theorem ntwice_yes {w : World} {g : Nat} {v : Value} {rs : List RecP} (h : NetAt 93 w g v rs) {k : Nat} {r : RecP} (hk : rs[k]? = some r) (hn : rs.length < 64) :
    Calls Try.prog 19 #[.pointer (some ⟨g, 0, none⟩), .int .i64 k] w fun e w' => e = .returned (.bool true) ∧ ∃ u', (∀ k, u'.ownBlock = some k → w.heap.size ≤ k) ∧ NetV 93 w w' g v (rs ++ [⟨r.p, u'⟩]) := by
  have hhas := has_any h (k : Int)
  rw [inNB_not (List.getElem?_eq_some_iff.1 hk).1] at hhas
  have hfull := qfull_any h
  rw [decide_eq_true hn] at hfull
  have HF := Lib.hid hfull
  have HH := Lib.hid hhas
  have HD := Lib.hid (double_any h hk (by omega))
  clear hhas hfull h hk hn
  go_enter Try.func19, Try.ntmps19
  go_wp2_with fail
  refine (HH.out).mono ?_
  rintro e w2 ⟨rfl, hw2⟩
  cases hw2.symm
  go_wp2_with fail
  refine (HF.out).mono ?_
  rintro e w2 ⟨rfl, hw2⟩
  cases hw2.symm
  go_wp2_with fail
  refine (HD.out).mono ?_
  rintro e w2 ⟨rfl, u', hu, hv⟩
  have HU := Lib.hid hu
  have HV := Lib.hid hv
  clear hu hv
  go_wp2_with fail
  go_ret
  exact ⟨rfl, u', HU.out, HV.out⟩

end Go.Proofs.Ytneomfhlkdpnjaa
