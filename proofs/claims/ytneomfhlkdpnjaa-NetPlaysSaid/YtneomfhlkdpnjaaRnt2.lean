/- Contracts: the reference net: Deliver. -/
import Derived.BigRegion
import Derived.Deep.RegionHeld3
import Derived.Test.YtneomfhlkdpnjaaProg
import Derived.Test.YtneomfhlkdpnjaaKit
import Derived.Test.YtneomfhlkdpnjaaRow
import Derived.Test.YtneomfhlkdpnjaaSha
import Derived.Test.YtneomfhlkdpnjaaCod7
import Derived.Test.YtneomfhlkdpnjaaTxt2
import Derived.Test.YtneomfhlkdpnjaaFrm4
import Derived.Test.YtneomfhlkdpnjaaFp
import Derived.Test.YtneomfhlkdpnjaaDsk6
import Derived.Test.YtneomfhlkdpnjaaNet0
import Derived.Test.YtneomfhlkdpnjaaNet2
import Derived.Test.YtneomfhlkdpnjaaNet8
import Derived.Test.YtneomfhlkdpnjaaNet9
import Derived.Test.YtneomfhlkdpnjaaNet10
import Derived.Test.YtneomfhlkdpnjaaRnt1
namespace Go.Proofs.Ytneomfhlkdpnjaa
open Go.RowKit Go.Proofs

theorem rdel_end {T : TypeId} {w w4 : World} {g hs : Nat} {v v' : Value} {rs rs' : List RecP} {ys : List Value} (hT2 : T ≠ 5) (h : NetAt T w g v rs) (hsub : ∀ r ∈ rs', r ∈ rs) (hhs : w.heap.size ≤ hs) (hb : Below w.heap.size w w4)
    (ho : OwnP w4 v' rs') (hf : ∀ k, v'.ownBlock = some k → hs < k) : NetV T w ((w4.setCell ⟨g, 0, none⟩ v').setCells hs 0 ys) g v rs' := by
  have hgw : g < w.heap.size := Rw.size h.1
  have hKF : Kept (Foot g v) w ((w4.setCell ⟨g, 0, none⟩ v').setCells hs 0 ys) := kept_setCells (kept_put (kept_below hb) (.inl (.inl rfl)) 0 v') (.inr hhs) 0 ys
  have hr4 := rw_kept (F := fun _ => False) h.1 (kept_below hb) (fun h => h)
  refine ⟨v', ⟨Rw.otherAll (Rw.stored hr4 0 v') (by omega) 0 ys, own_same ho (fun k hk => ?_), fun r hr => bytP_keep h hT2 hKF (h.2.2 r (hsub r hr))⟩, fun k hk => .inr (by have := hf k hk; omega), hKF⟩
  have h1 := hf k hk
  rw [setCells_heap _ _ _ _ _ (by omega)]
  exact set_far (by omega)

set_option maxRecDepth 100000 in
set_option maxHeartbeats 2000000 in
theorem rdeliver_yes {w : World} {g : Nat} {v : Value} {rs : List RecP} (h : NetAt 45 w g v rs) {k : Nat} {r : RecP} (hk : rs[k]? = some r) (hn : rs.length ≤ 64) :
    Calls Try.prog 16 #[.pointer (some ⟨g, 0, none⟩), .int .i64 k] w fun e w' => ∃ a c, r.u = .slice a r.p.b.length c ∧ e = .returned (.tuple #[.agg #[.int .i64 r.p.f, .int .i64 r.p.t, .slice a r.p.b.length c], .bool true]) ∧ NetV 45 w w' g v (rs.eraseIdx k) ∧ BytP w' r := by
  have hbA : Below w.heap.size w (w.alloc (.cells #[.int .i64 0, .int .i64 0, .slice none 0 0] 52)) := below_more (Below.refl _ _) _
  have hA := netAt_below h hbA
  have HPK := Lib.hid (rpeek_yes hA hk)
  have HBR := Lib.hid (h.2.2 r (List.mem_of_getElem? hk))
  have hkl : k < rs.length := (List.getElem?_eq_some_iff.1 hk).1
  obtain ⟨gr, c, L0, rfl, hc, hm, hr, hl, ht⟩ := ownP_blk h.2.1 (by intro e; rw [e] at hkl; simp at hkl)
  obtain ⟨⟨f, t, b⟩, u⟩ := r
  dsimp only at HPK ⊢
  have H := Lib.hid h
  have HBA := Lib.hid hbA
  have HR := Lib.hid hr
  have HZR : Hid (Rw (w.alloc (.cells #[.int .i64 0, .int .i64 0, .slice none 0 0] 52)) 0 w.heap.size 52 [.int .i64 0, .int .i64 0, .slice none 0 0]) := Lib.hid (Rw.alloc w _ _ (Nat.zero_le _))
  obtain ⟨n, hnn⟩ : ∃ n, n = rs.length := ⟨_, rfl⟩
  obtain ⟨m, hmm⟩ : ∃ m, m = n - (k + 1) := ⟨_, rfl⟩
  have hs1 := fun W => sl_h W gr n c k (by omega)
  have hs2 := fun W => sl_l W gr n c (k + 1) (by omega)
  rw [← hmm, show ((k + 1 : Nat) : Int) = (k : Int) + 1 by omega] at hs2
  obtain ⟨ad, had⟩ : ∃ ad, (if c = k + 1 then some (⟨gr, 0, none⟩ : Addr) else some ⟨gr, (k + 1) * 3, none⟩) = some ad := by split <;> exact ⟨_, rfl⟩
  rw [had] at hs2
  have hone : ∀ r ∈ rs, r.u.oneCell' = true := fun r hr => own_slice (h.2.2 r hr).1
  have H1A := Lib.hid (rowsP_one_cell (rs := rs.take k) (fun r hr => hone r (List.mem_of_mem_take hr)))
  have H1B := Lib.hid (rowsP_one_cell (rs := rs.drop (k + 1)) (fun r hr => hone r (List.mem_of_mem_drop hr)))
  have HLA : Hid ((rowsP (rs.take k)).length = k * 3) := Lib.hid (by rw [rowsP_len, List.length_take]; omega)
  have HLB : Hid ((rowsP (rs.drop (k + 1))).length = m * 3) := Lib.hid (by rw [rowsP_len, List.length_drop]; omega)
  have HSA : Hid (∀ (W : World), Below w.heap.size w W → ∀ i u, (rowsP (rs.take k))[i]? = some u → W.cell? ((⟨gr, 0, none⟩ : Addr).add i) = some u) := Lib.hid (fun W hW i u hi => by
    rw [Addr.add_mid, Nat.zero_add]
    refine Rw.cell (rw_kept (F := fun _ => False) hr (kept_below hW) (fun h => h)) ?_
    rw [rowsP_take, ← ht, List.take_take, List.getElem?_take] at hi
    split at hi
    · exact hi
    · cases hi)
  have HSB : Hid (∀ (W : World), Below w.heap.size w W → ∀ i u, (rowsP (rs.drop (k + 1)))[i]? = some u → W.cell? (ad.add i) = some u) := Lib.hid (fun W hW i u hi => by
    have hil := (List.getElem?_eq_some_iff.1 hi).1
    rw [HLB.out] at hil
    rw [if_neg (by omega)] at had
    cases had
    rw [Addr.add_mid]
    refine Rw.cell (rw_kept (F := fun _ => False) hr (kept_below hW) (fun h => h)) ?_
    rw [rowsP_drop, ← ht, List.getElem?_drop, List.getElem?_take] at hi
    split at hi
    · exact hi
    · cases hi)
  have HER : Hid (rowsP (rs.eraseIdx k) = rowsP (rs.take k) ++ rowsP (rs.drop (k + 1))) := Lib.hid (by rw [List.eraseIdx_eq_take_drop_succ, rowsP_app])
  have HEL : Hid ((rs.eraseIdx k).length = k + m) := Lib.hid (by rw [List.length_eraseIdx, if_pos hkl]; omega)
  have HM1 : Hid (0 + k ≤ maxLen) := Lib.hid (by unfold maxLen; omega)
  have HM2 : Hid (k + m ≤ maxLen) := Lib.hid (by unfold maxLen; omega)
  have HT1 : Hid ((0 + k) * 40 ≤ 140737488355328) := Lib.hid (by omega)
  have HT2 : Hid ((k + m) * 40 ≤ 140737488355328) := Lib.hid (by omega)
  have hk64 : (k : Int) < 64 := by omega
  obtain ⟨i0, hi, hz0, hz1, hz2⟩ := info_parts Try.infoPacket
  have hz := zero_cells Try.infoPkz
  have HN := Lib.hid hnn
  rw [← hnn]
  clear h hA hbA hk hkl hc hm hr hl ht hnn hmm had hone hn
  go_enter Try.func16, Try.ntmps16
  go_wp2_with (first | (refine wpList_alloc_z rfl 52 rfl #[.int .i64 0, .int .i64 0, .slice none 0 0] hz ?_) | fail)
  refine (HPK.out).mono ?_
  rintro e w1 ⟨ua, uc, hu, rfl, hb1⟩
  have HU := Lib.hid hu
  have hb2 : Below w.heap.size w (w1.alloc (.cells #[.int .i64 f, .int .i64 t, .slice ua b.length uc] 52)) := below_more (HBA.out.trans (hb1.mono HBA.out.size)) _
  have HB2 := Lib.hid hb2
  have cg : (w1.alloc (.cells #[.int .i64 f, .int .i64 t, .slice ua b.length uc] 52)).cell? ⟨g, 0, none⟩ = some (.slice (some ⟨gr, 0, none⟩) n c) := by rw [HN.out]; exact Rw.cell (netAt_below H.out hb2).1 rfl
  have HZ2 : Hid (Rw (w1.alloc (.cells #[.int .i64 f, .int .i64 t, .slice ua b.length uc] 52)) 0 w.heap.size 52 [.int .i64 0, .int .i64 0, .slice none 0 0]) := Lib.hid (Rw.below HZR.out (below_more hb1 _))
  have HP2 : Hid (Rw (w1.alloc (.cells #[.int .i64 f, .int .i64 t, .slice ua b.length uc] 52)) 0 w1.heap.size 52 [.int .i64 f, .int .i64 t, .slice ua b.length uc]) := Lib.hid (Rw.alloc w1 _ _ (Nat.zero_le _))
  have H1S : Hid (w.heap.size < w1.heap.size) := Lib.hid (by have := hb1.size; simp at this; omega)
  clear hu hb1 hb2 HPK
  dsimp only
  go_wp2_with (first
    | (refine wpList_alloc_z rfl 52 rfl #[.int .i64 0, .int .i64 0, .slice none 0 0] hz ?_)
    | (refine wpList_append_own _ rfl (.tmp 16) (.tmp 22) 43 rfl (w1.alloc (.cells #[.int .i64 f, .int .i64 t, .slice ua b.length uc] 52)).heap.size 52 i0 _ 3 40 Try.underlying43 hi hz0 hz1 hz2 rfl (by decide) (.slice none 0 0) 0 [] rfl (World.ownsRow_nil _ _ _ _) ⟨gr, 0, none⟩ k c (rowsP (rs.take k)) rfl HLA.out (HSA.out _ HB2.out) H1A.out HM1.out HT1.out (Nat.le_refl _) ?_; intro v8 w3 hown8 hgr8 _; rw [Nat.zero_add, List.nil_append] at hown8; obtain ⟨a8, c8, rfl⟩ := own_len hown8; have hb3 := below_own (World.ownsRow_nil (w1.alloc (.cells #[.int .i64 f, .int .i64 t, .slice ua b.length uc] 52)) (w1.alloc (.cells #[.int .i64 f, .int .i64 t, .slice ua b.length uc] 52)).heap.size 52 3) hgr8 (Nat.le_refl _); have HO8 := Lib.hid hown8; have HB3 := Lib.hid hb3; have HB03 := Lib.hid (below_then HB2.out hb3); have HC3 := Lib.hid (Rw.cell (netAt_below H.out (below_then HB2.out hb3)).1 (j := 0) rfl); have cg3 : w3.cell? ⟨g, 0, none⟩ = some (.slice (some ⟨gr, 0, none⟩) n c) := (by rw [HN.out]; exact HC3.out); clear hown8 hgr8 hb3 cg)
    | (refine wpList_append_own _ rfl (.tmp 25) (.tmp 32) 43 rfl (w1.alloc (.cells #[.int .i64 f, .int .i64 t, .slice ua b.length uc] 52)).heap.size 52 i0 _ 3 40 Try.underlying43 hi hz0 hz1 hz2 rfl (by decide) (.slice a8 k c8) k (rowsP (rs.take k)) rfl HO8.out ad m (c - (k + 1)) (rowsP (rs.drop (k + 1))) rfl HLB.out (HSB.out _ HB03.out) H1B.out HM2.out HT2.out HB3.out.size ?_; intro v9 w4 hown9 hgr9 _; obtain ⟨a9, c9, rfl⟩ := own_len hown9; have hb4 := below_own HO8.out hgr9 HB3.out.size; have HBW4 := Lib.hid (HB3.out.trans hb4); have HB04 := Lib.hid (HB2.out.trans (HBW4.out.mono HB2.out.size)); have hg4 := (netAt_below H.out HB04.out).1; have HC4 := Lib.hid (Rw.cell hg4 (j := 0) rfl); have cg4 : w4.cell? ⟨g, 0, none⟩ = some (.slice (some ⟨gr, 0, none⟩) n c) := (by rw [HN.out]; exact HC4.out); have fg4 := Rw.free hg4 0; have HGW := Lib.hid (Rw.size H.out.1); have hz5 := Rw.other (Rw.below HZ2.out HBW4.out) (g' := g) (Nat.ne_of_lt HGW.out) 0 (.slice a9 (k + m) c9); have hp5 := Rw.other (Rw.below HP2.out HBW4.out) (g' := g) (Nat.ne_of_lt (Nat.lt_trans HGW.out H1S.out)) 0 (.slice a9 (k + m) c9); have e0 : (w4.setCell ⟨g, 0, none⟩ (.slice a9 (k + m) c9)).cell? ⟨w1.heap.size, 0, none⟩ = some (.int .i64 f) := Rw.cell hp5 rfl; have e1 : (w4.setCell ⟨g, 0, none⟩ (.slice a9 (k + m) c9)).cell? ⟨w1.heap.size, 1, none⟩ = some (.int .i64 t) := Rw.cell hp5 rfl; have e2 : (w4.setCell ⟨g, 0, none⟩ (.slice a9 (k + m) c9)).cell? ⟨w1.heap.size, 2, none⟩ = some (.slice ua b.length uc) := Rw.cell hp5 rfl; have HTH := Lib.hid (Rw.there hz5 0 3 (Nat.le_refl _)); have HEND := Lib.hid (Rw.storedAll hz5 [.int .i64 f, .int .i64 t, .slice ua b.length uc] rfl); have HO9 := Lib.hid hown9; clear hown9 hgr9 hb4 hg4 hz5 hp5 cg3)
    | (refine wpList_store_mid rfl 52 (.tmp 4) (.tmp 36) rfl w.heap.size 0 #[.int .i64 f, .int .i64 t, .slice ua b.length uc] rfl rfl HTH.out Try.infoPk (pk_one _ _ _ _ _) ?_)
    | fail)
  have hO9 : OwnP w4 (.slice a9 (k + m) c9) (rs.eraseIdx k) := by
    show w4.ownsRow 0 52 3 (.slice a9 (k + m) c9) (rs.eraseIdx k).length (rowsP (rs.eraseIdx k))
    rw [HEL.out, HER.out]
    exact own_mono HO9.out (Nat.zero_le _)
  have hT := rdel_end (hs := w.heap.size) (ys := [.int .i64 f, .int .i64 t, .slice ua b.length uc]) (by decide) H.out (fun r hr => List.mem_of_mem_eraseIdx hr) (Nat.le_refl _) HB04.out hO9 (fun j hj => by have h1 := (World.ownsRow.lt HO9.out j hj).1; have h2 := H1S.out; simp at h1; omega)
  have hKF : Kept (Foot g (.slice (some ⟨gr, 0, none⟩) rs.length c)) w ((w4.setCell ⟨g, 0, none⟩ (.slice a9 (k + m) c9)).setCells w.heap.size 0 [.int .i64 f, .int .i64 t, .slice ua b.length uc]) := by
    obtain ⟨_, _, _, h3⟩ := hT
    exact h3
  rw [HN.out]
  refine bodyPost_ret (v := .tuple #[.agg #[.int .i64 f, .int .i64 t, .slice ua b.length uc], .bool true]) ?_ rfl ⟨ua, uc, HU.out, rfl, hT, bytP_keep H.out (by decide) hKF HBR.out⟩
  exact results_row_tmp rfl _ _ w.heap.size 0 _ [.int .i64 f, .int .i64 t, .slice ua b.length uc] _ rfl HEND.out Try.underlying52 rfl Try.infoPk _ rfl

end Go.Proofs.Ytneomfhlkdpnjaa
