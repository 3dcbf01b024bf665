/- Contracts: the code's net: take, Deliver, Drop. -/
import Derived.BigRegion
import Derived.Deep.RegionHeld3
import Derived.Test.YtneomfhlkdpnjaaProg
import Derived.Test.YtneomfhlkdpnjaaKit
import Derived.Test.YtneomfhlkdpnjaaRow
import Derived.Test.YtneomfhlkdpnjaaCod7
import Derived.Test.YtneomfhlkdpnjaaFp
import Derived.Test.YtneomfhlkdpnjaaDsk6
import Derived.Test.YtneomfhlkdpnjaaNet0
import Derived.Test.YtneomfhlkdpnjaaNet2
import Derived.Test.YtneomfhlkdpnjaaNet8
import Derived.Test.YtneomfhlkdpnjaaNet9
namespace Go.Proofs.Ytneomfhlkdpnjaa
open Go.RowKit Go.Proofs

theorem bytP_keep {T : TypeId} {w w' : World} {g : Nat} {v : Value} {rs : List RecP} (h : NetAt T w g v rs) (hT : T ≠ 5) (hk : Kept (Foot g v) w w') {r : RecP} (hr : BytP w r) : BytP w' r :=
  ⟨own_keep hr.1 hk (fun _ hb => bytP_off h hT hr.1 hb), hr.2⟩

theorem set_far {w : World} {g j k : Nat} {u : Value} (h : k ≠ g) : (w.setCell ⟨g, j, none⟩ u).heap[k]? = w.heap[k]? := by
  simp only [World.setCell, Array.getElem?_modify]
  rw [if_neg (fun e => h e.symm)]

/-- The end of take. -/
theorem take_end {T : TypeId} {w w2 w3 : World} {g hs : Nat} {v v' : Value} {rs rs' : List RecP} {ys : List Value} (hT : T ≠ 52) (hT2 : T ≠ 5) (h : NetAt T w g v rs) (hsub : ∀ r ∈ rs', r ∈ rs) (hhs : w.heap.size ≤ hs) (hb : Below w.heap.size w w2)
    (ho : OwnP w3 v' rs') (hob : v'.ownBlock = v.ownBlock) (hk : Kept (fun k => v.ownBlock = some k) w2 w3) : NetV T w ((w3.setCell ⟨g, 0, none⟩ v').setCells hs 0 ys) g v rs' := by
  have hgw : g < w.heap.size := Rw.size h.1
  have hgv : v.ownBlock ≠ some g := own_rw h.2.1 h.1 (fun e => hT e.symm)
  have hKF : Kept (Foot g v) w ((w3.setCell ⟨g, 0, none⟩ v').setCells hs 0 ys) :=
    kept_setCells (kept_put (kept_then (kept_below hb) hk (fun k hk => .inl (.inr hk))) (.inl (.inl rfl)) 0 v') (.inr hhs) 0 ys
  have hr2 := rw_kept (F := fun _ => False) h.1 (kept_below hb) (fun h => h)
  have hr3 : Rw w3 0 g T [v] := rw_kept hr2 hk hgv
  refine ⟨v', ⟨?_, ?_, fun r hr => bytP_keep h hT2 hKF (h.2.2 r (hsub r hr))⟩, fun k hk => .inl (by rw [← hob]; exact hk), hKF⟩
  · exact Rw.otherAll (Rw.stored hr3 0 v') (by omega) 0 ys
  · refine own_same ho (fun k hk => ?_)
    rw [setCells_heap _ _ _ _ _ (by rintro rfl; rw [hob] at hk; have := own_lt h.2.1 hk; omega)]
    exact set_far (by rintro rfl; rw [hob] at hk; exact hgv hk)

set_option maxRecDepth 100000 in
set_option maxHeartbeats 1000000 in
theorem take_any {w : World} {g : Nat} {v : Value} {rs : List RecP} (h : NetAt 93 w g v rs) {k : Nat} {r : RecP} (hk : rs[k]? = some r) (hn : rs.length < 1000000) :
    Calls Try.prog 54 #[.pointer (some ⟨g, 0, none⟩), .int .i64 k] w fun e w' => ∃ a c, r.u = .slice a r.p.b.length c ∧ e = .returned (.agg #[.int .i64 r.p.f, .int .i64 r.p.t, .slice a r.p.b.length c]) ∧ NetV 93 w w' g v (rs.eraseIdx k) ∧ BytP w' r := by
  have hkl : k < rs.length := (List.getElem?_eq_some_iff.1 hk).1
  have hbr := h.2.2 r (List.mem_of_getElem? hk)
  have hone : ∀ r ∈ rs, r.u.oneCell' = true := fun r hr => own_slice (h.2.2 r hr).1
  have H := Lib.hid h
  have HBR := Lib.hid hbr
  have HON := Lib.hid hone
  obtain ⟨ua, uc, hu⟩ := own_len hbr.1
  have hA := netAt_below h (below_more (Below.refl _ _) (.cells #[.int .i64 0, .int .i64 0, .slice none 0 0] 52))
  obtain ⟨gr, c, hv, hc, hrange⟩ := ownP_range hA.2.1 hk
  obtain ⟨⟨f, t, b⟩, u⟩ := r
  dsimp only at hrange hu HBR ⊢
  subst hu hv
  have cg : (w.alloc (.cells #[.int .i64 0, .int .i64 0, .slice none 0 0] 52)).cell? ⟨g, 0, none⟩ = some (.slice (some ⟨gr, 0, none⟩) rs.length c) := Rw.cell hA.1 rfl
  have d0 : (w.alloc (.cells #[.int .i64 0, .int .i64 0, .slice none 0 0] 52)).cell? ⟨gr, k * 3, none⟩ = some (.int .i64 f) := hrange 0 _ rfl
  have d1 : (w.alloc (.cells #[.int .i64 0, .int .i64 0, .slice none 0 0] 52)).cell? ⟨gr, k * 3 + 1, none⟩ = some (.int .i64 t) := hrange 1 _ rfl
  have d2 : (w.alloc (.cells #[.int .i64 0, .int .i64 0, .slice none 0 0] 52)).cell? ⟨gr, k * 3 + 2, none⟩ = some (.slice ua b.length uc) := hrange 2 _ rfl
  have hy : (k : Int) < (rs.length : Int) := by omega
  obtain ⟨n, hnn⟩ : ∃ n, n = rs.length := ⟨_, rfl⟩
  have HNN := Lib.hid hnn
  rw [← hnn] at cg hy
  obtain ⟨hs, hhs⟩ : ∃ hs, hs = w.heap.size := ⟨_, rfl⟩
  have hP0 : Rw ((w.alloc (.cells #[.int .i64 0, .int .i64 0, .slice none 0 0] 52)).alloc (.cells #[.int .i64 f, .int .i64 t, .slice ua b.length uc] 52)) 0 (w.heap.size + 1) 52 [.int .i64 f, .int .i64 t, .slice ua b.length uc] := by
    have h2 := Rw.alloc (w.alloc (.cells #[.int .i64 0, .int .i64 0, .slice none 0 0] 52)) 52 #[.int .i64 f, .int .i64 t, .slice ua b.length uc] (Nat.zero_le _)
    rw [show (w.alloc (.cells #[.int .i64 0, .int .i64 0, .slice none 0 0] 52)).heap.size = w.heap.size + 1 by simp] at h2
    exact h2
  obtain ⟨w2, hw2⟩ : ∃ w2, w2 = (w.alloc (.cells #[.int .i64 0, .int .i64 0, .slice none 0 0] 52)).alloc (.cells #[.int .i64 f, .int .i64 t, .slice ua b.length uc] 52) := ⟨_, rfl⟩
  have hR2 : Rw w2 0 w.heap.size 52 [.int .i64 0, .int .i64 0, .slice none 0 0] := by
    rw [hw2]
    exact Rw.more (Rw.alloc w _ _ (Nat.zero_le _)) _
  have hP2 : Rw w2 0 (w.heap.size + 1) 52 [.int .i64 f, .int .i64 t, .slice ua b.length uc] := by rw [hw2]; exact hP0
  have hb2 : Below w.heap.size w w2 := by
    rw [hw2]
    exact below_more (below_more (Below.refl _ _) _) _
  have hA2 := netAt_below h hb2
  have cg2 : w2.cell? ⟨g, 0, none⟩ = some (.slice (some ⟨gr, 0, none⟩) n c) := by rw [hnn]; exact Rw.cell hA2.1 rfl
  have hdel := delete_any hA2.2.1 hkl (j := k + 1) rfl HON.out
  rw [show ((k + 1 : Nat) : Int) = (k : Int) + 1 by omega, ← hnn] at hdel
  have HDEL := Lib.hid hdel
  have HR2 := Lib.hid hR2
  have HP2 := Lib.hid hP2
  have HB2 := Lib.hid hb2
  have HA2 := Lib.hid hA2
  have HW2 := Lib.hid hw2
  rw [hw2] at cg2
  have hz := zero_cells Try.infoPkz
  have hwr : wrap64 ((k : Int) + 1) = (k : Int) + 1 := by unfold wrap64; omega
  have HKL := Lib.hid hkl
  clear h hbr hone hA hc hrange hP0 hk hn hnn hkl hhs hdel hw2 hR2 hP2 hb2 hA2
  go_enter Try.func54, Try.ntmps54
  go_wp2_with (first | (refine wpList_alloc_z rfl 52 rfl #[.int .i64 0, .int .i64 0, .slice none 0 0] hz ?_) | fail)
  rw [← HW2.out]
  refine (HDEL.out).mono ?_
  rintro e w3 ⟨v', rfl, ho3, hob, hk3⟩
  rw [HNN.out] at hk3 hob
  have hT := take_end (hs := w.heap.size) (ys := [.int .i64 f, .int .i64 t, .slice ua b.length uc]) (by decide) (by decide) H.out (fun r hr => List.mem_of_mem_eraseIdx hr) (Nat.le_refl _) HB2.out ho3 hob hk3
  have HT := Lib.hid hT
  have hgr : gr < w.heap.size := own_lt H.out.2.1 rfl
  have hgg : g < w.heap.size := Rw.size H.out.1
  have hgn : gr ≠ g := fun e => own_rw H.out.2.1 H.out.1 (by decide) (congrArg some e)
  obtain ⟨va, vc, hv'⟩ := own_len ho3
  obtain ⟨vn, hvn⟩ : ∃ vn, vn = (rs.eraseIdx k).length := ⟨_, rfl⟩
  rw [← hvn] at hv'
  subst hv'
  have hne : ∀ x, (some gr = some x) → x = gr := fun x e => (Option.some.inj e).symm
  have hg3 := rw_kept HA2.out.1 hk3 (fun e => hgn (hne _ e).symm)
  have hR3 := rw_kept HR2.out hk3 (fun e => by have := hne _ e; omega)
  have hP3 := rw_kept HP2.out hk3 (fun e => by have := hne _ e; omega)
  have cg3 : w3.cell? ⟨g, 0, none⟩ = some (.slice (some ⟨gr, 0, none⟩) rs.length c) := Rw.cell hg3 rfl
  have fg3 := Rw.free hg3 0
  have hR4 := Rw.other hR3 (g' := g) (by omega) 0 (.slice va vn vc)
  have hP4 := Rw.other hP3 (g' := g) (by omega) 0 (.slice va vn vc)
  have e0 : (w3.setCell ⟨g, 0, none⟩ (.slice va vn vc)).cell? ⟨w.heap.size + 1, 0, none⟩ = some (.int .i64 f) := Rw.cell hP4 rfl
  have e1 : (w3.setCell ⟨g, 0, none⟩ (.slice va vn vc)).cell? ⟨w.heap.size + 1, 1, none⟩ = some (.int .i64 t) := Rw.cell hP4 rfl
  have e2 : (w3.setCell ⟨g, 0, none⟩ (.slice va vn vc)).cell? ⟨w.heap.size + 1, 2, none⟩ = some (.slice ua b.length uc) := Rw.cell hP4 rfl
  have HTH := Lib.hid (Rw.there hR4 0 3 (Nat.le_refl _))
  have HEND := Lib.hid (Rw.storedAll hR4 [.int .i64 f, .int .i64 t, .slice ua b.length uc] rfl)
  clear hT hgr hgg hgn hne hg3 hR3 hP3 hR4 hP4 ho3 hob hk3 hvn cg2 cg d0 d1 d2 hwr
  go_wp2_with (first | (refine wpList_store_mid rfl 52 (.tmp 4) (.tmp 24) rfl w.heap.size 0 #[.int .i64 f, .int .i64 t, .slice ua b.length uc] rfl rfl HTH.out Try.infoPk (pk_one _ _ _ _ _) ?_) | fail)
  have hKF : Kept (Foot g (.slice (some ⟨gr, 0, none⟩) rs.length c)) w ((w3.setCell ⟨g, 0, none⟩ (.slice va vn vc)).setCells w.heap.size 0 [.int .i64 f, .int .i64 t, .slice ua b.length uc]) := by
    obtain ⟨_, _, _, h3⟩ := HT.out
    exact h3
  rw [HNN.out]
  refine bodyPost_ret (v := .agg #[.int .i64 f, .int .i64 t, .slice ua b.length uc]) ?_ rfl ⟨ua, uc, rfl, rfl, HT.out, bytP_keep H.out (by decide) hKF HBR.out⟩
  exact results_cell_row rfl _ _ w.heap.size _ _ _ _ rfl HEND.out.2 Try.underlying52 rfl Try.infoPk

end Go.Proofs.Ytneomfhlkdpnjaa
