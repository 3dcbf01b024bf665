/- Contracts: the code's net: which packets are a node's; the first of them. -/
import Derived.BigRegion
import Derived.Deep.RegionHeld3
import Derived.Test.YtneomfhlkdpnjaaProg
import Derived.Test.YtneomfhlkdpnjaaKit
import Derived.Test.YtneomfhlkdpnjaaRow
import Derived.Test.YtneomfhlkdpnjaaCod5
import Derived.Test.YtneomfhlkdpnjaaCod7
import Derived.Test.YtneomfhlkdpnjaaNet0
import Derived.Test.YtneomfhlkdpnjaaStp
import Derived.Test.YtneomfhlkdpnjaaNet4
namespace Go.Proofs.Ytneomfhlkdpnjaa
open Go.RowKit Go.Proofs

def isM (k : Int) (p : PkM) : Bool := (p.f == k) || (p.t == k)

theorem lose1_any (f t : Int) (b : List UInt8) (u : Value) (gb : Nat) (k : Int) (w : World) (h : w.cell? ⟨gb, 0, none⟩ = some (.int .i64 k)) :
    Calls Try.prog 82 #[.agg #[.int .i64 f, .int .i64 t, u], .pointer (some ⟨gb, 0, none⟩)] w fun e w' => e = .returned (.bool (isM k ⟨f, t, b⟩)) ∧ Below w.heap.size w w' := by
  unfold isM
  dsimp only
  have hA := cell_more h (.cells #[.int .i64 f, .int .i64 t, u] 52)
  have HB := Lib.hid (below_more (Below.refl w.heap.size w) (.cells #[.int .i64 f, .int .i64 t, u] 52))
  cases hq : (f == k) with
  | true =>
    go_enter Try.func82, Try.ntmps82
    go_wp2_with fail
    go_ret
    exact ⟨rfl, HB.out⟩
  | false =>
    obtain ⟨q, hq2⟩ : ∃ q, q = (t == k) := ⟨_, rfl⟩
    rw [← hq2]
    have hq3 := hq2.symm
    clear hq2
    go_enter Try.func82, Try.ntmps82
    go_wp2_with fail
    go_ret
    exact ⟨by simp, HB.out⟩

/-- A row, and the box that a closure has captured. -/
def idxI (k : Int) (rs : List RecP) : Int := match rs.findIdx? (fun r => isM k r.p) with | some j => j | none => -1

theorem idxI_hit {k : Int} {rs : List RecP} {j : Nat} {r : RecP} (hj : rs[j]? = some r) (h : isM k r.p = true) (hb : ∀ (i : Nat) (x : RecP), i < j → rs[i]? = some x → isM k x.p = false) : idxI k rs = (j : Int) := by
  unfold idxI
  have hjl := (List.getElem?_eq_some_iff.1 hj).1
  rw [show rs.findIdx? (fun r => isM k r.p) = some j by
    rw [List.findIdx?_eq_some_iff_getElem]
    refine ⟨hjl, ?_, fun i hi => ?_⟩
    · rw [(List.getElem?_eq_some_iff.1 hj).2]; exact h
    · have := hb i rs[i] hi (List.getElem?_eq_getElem (by omega))
      simpa using this]

theorem idxI_none {k : Int} {rs : List RecP} (hb : ∀ (i : Nat) (x : RecP), rs[i]? = some x → isM k x.p = false) : idxI k rs = -1 := by
  unfold idxI
  rw [show rs.findIdx? (fun r => isM k r.p) = none by
    rw [List.findIdx?_eq_none_iff]
    intro x hx
    obtain ⟨i, hi⟩ := List.mem_iff_getElem?.1 hx
    exact hb i x hi]

set_option maxRecDepth 100000 in
set_option maxHeartbeats 2000000 in
theorem indexfunc_any {w : World} {v : Value} {rs : List RecP} (h : OwnP w v rs) (hone : ∀ r ∈ rs, ∃ a n c, r.u = .slice a n c) {gb : Nat} {k : Int} (hb : w.cell? ⟨gb, 0, none⟩ = some (.int .i64 k)) (hn : rs.length ≤ 64) :
    Calls Try.prog 87 #[v, .func (.func 82) #[] #[.pointer (some ⟨gb, 0, none⟩)]] w fun e w' => e = .returned (.int .i64 (idxI k rs)) ∧ Below w.heap.size w w' := by
  have H := Lib.hid h
  have HO := Lib.hid hone
  have HB := Lib.hid hb
  obtain ⟨a, c, rfl⟩ := own_len h
  obtain ⟨n, hnn⟩ : ∃ n, n = rs.length := ⟨_, rfl⟩
  have henter : Enters Try.prog 82 := enters_of Try.func82 (by kernel_rfl) rfl
  have HN := Lib.hid hnn
  have HNB : Hid (n ≤ 64) := Lib.hid (by rw [hnn]; exact hn)
  rw [← hnn]
  clear h hone hb hnn hn
  go_enter Try.func87, Try.ntmps87
  go_wp2_with fail
  go_loopw [8] (fun i wr => ∃ kk : Nat, kk ≤ n ∧ i = .int .i64 kk ∧ Hid (Below w.heap.size w wr) ∧ Hid (∀ (i : Nat) (x : RecP), i < kk → rs[i]? = some x → isM k x.p = false)) (fun i _ => n - (intOf i).toNat)
  case atStart => exact ⟨0, Nat.zero_le _, rfl, Lib.hid (Below.refl _ _), Lib.hid (fun i x hi => absurd hi (Nat.not_lt_zero _))⟩
  case round =>
    obtain ⟨kk, hkk, rfl, BW, HA⟩ := hrel
    obtain ⟨w1, hw1⟩ : ∃ w1 : World, w1 = wr := ⟨_, rfl⟩
    subst hw1
    by_cases hlt : kk < n
    · obtain ⟨r, hr⟩ : ∃ r, rs[kk]? = some r := ⟨_, List.getElem?_eq_getElem (by rw [← HN.out]; exact hlt)⟩
      have hown1 : OwnP w1 (.slice a rs.length c) rs := own_below H.out (BW.out.mono (Nat.le_refl _))
      obtain ⟨gr, c', hv, hc, hrange⟩ := ownP_range hown1 hr
      injection hv with e1 e2 e3
      subst e1 e3
      clear e2
      obtain ⟨ua, un, uc, hu⟩ := HO.out r (List.mem_of_getElem? hr)
      have hcb : w1.cell? ⟨gb, 0, none⟩ = some (.int .i64 k) := by rw [BW.out.cell (block_of_cell HB.out)]; exact HB.out
      obtain ⟨⟨f, t, b⟩, u⟩ := r
      dsimp only at hu hrange
      subst hu
      have hcl := lose1_any f t b (.slice ua un uc) gb k w1 hcb
      obtain ⟨q, hq⟩ : ∃ q, q = isM k ⟨f, t, b⟩ := ⟨_, rfl⟩
      rw [← hq] at hcl
      have HCL := Lib.hid hcl
      have d0 : w1.cell? ⟨gr, kk * 3, none⟩ = some (.int .i64 f) := hrange 0 _ rfl
      have d1 : w1.cell? ⟨gr, kk * 3 + 1, none⟩ = some (.int .i64 t) := hrange 1 _ rfl
      have d2 : w1.cell? ⟨gr, kk * 3 + 2, none⟩ = some (.slice ua un uc) := hrange 2 _ rfl
      have hy : (kk : Int) < (n : Int) := by omega
      have hk64 : (kk : Int) < 64 := by have := HNB.out; omega
      have HJ := Lib.hid hlt
      cases q with
      | true =>
        have HI := Lib.hid (idxI_hit (k := k) hr hq.symm HA.out)
        clear hcl hcb hown1 hc hrange hr hq hlt hkk
        go_wp2_with (first | (refine wpList_callv rfl (.tmp 11) _ _ rfl 82 #[.pointer (some ⟨gb, 0, none⟩)] rfl #[.agg #[.int .i64 f, .int .i64 t, .slice ua un uc], .pointer (some ⟨gb, 0, none⟩)] (by simp [go_sem]) henter HCL.out ?_; rintro e w2 ⟨rfl, hb2⟩; have HB2 := Lib.hid (BW.out.trans (hb2.mono BW.out.size)); clear hb2 d0 d1 d2; refine ⟨_, rfl, ?_⟩) | fail)
        go_ret
        exact ⟨by rw [HI.out]; rfl, HB2.out⟩
      | false =>
        have HA2 : Hid (∀ (i : Nat) (x : RecP), i < kk + 1 → rs[i]? = some x → isM k x.p = false) := Lib.hid (fun i x hi hx => by
          rcases (by omega : i < kk ∨ i = kk) with h | h
          · exact HA.out i x h hx
          · subst h
            rw [hr] at hx
            cases hx
            exact hq.symm)
        clear hcl hcb hown1 hc hrange hr hq hlt hkk
        go_wp2_with (first | (refine wpList_callv rfl (.tmp 11) _ _ rfl 82 #[.pointer (some ⟨gb, 0, none⟩)] rfl #[.agg #[.int .i64 f, .int .i64 t, .slice ua un uc], .pointer (some ⟨gb, 0, none⟩)] (by simp [go_sem]) henter HCL.out ?_; rintro e w2 ⟨rfl, hb2⟩; have HB2 := Lib.hid (BW.out.trans (hb2.mono BW.out.size)); clear hb2 d0 d1 d2; refine ⟨_, rfl, ?_⟩) | fail)
        go_roundw
        case rel => have := HJ.out; exact ⟨kk + 1, by omega, by go_num, HB2, HA2⟩
        case measure => have := HJ.out; simp [intOf]; omega
    · have hy : ¬ (kk : Int) < (n : Int) := by omega
      have HI := Lib.hid (idxI_none (k := k) (rs := rs) (fun i x hx => HA.out i x (by have h1 := (List.getElem?_eq_some_iff.1 hx).1; have h2 := HN.out; omega) hx))
      clear hlt hkk
      go_wp2_with fail
      go_ret
      exact ⟨by rw [HI.out]; rfl, BW.out⟩

end Go.Proofs.Ytneomfhlkdpnjaa
