/- Contracts: the reference net: Twice; alike. -/
import Derived.BigRegion
import Derived.Deep.RegionHeld3
import Derived.Deep.RegionLaw
import Derived.Test.YtneomfhlkdpnjaaProg
import Derived.Test.YtneomfhlkdpnjaaKit
import Derived.Test.YtneomfhlkdpnjaaRow
import Derived.Test.YtneomfhlkdpnjaaCod7
import Derived.Test.YtneomfhlkdpnjaaCod9
import Derived.Test.YtneomfhlkdpnjaaFrm4
import Derived.Test.YtneomfhlkdpnjaaFp
import Derived.Test.YtneomfhlkdpnjaaNet0
import Derived.Test.YtneomfhlkdpnjaaNet1
import Derived.Test.YtneomfhlkdpnjaaNet5
import Derived.Test.YtneomfhlkdpnjaaNet6
import Derived.Test.YtneomfhlkdpnjaaRnt1
import Derived.Test.YtneomfhlkdpnjaaRnt4
namespace Go.Proofs.Ytneomfhlkdpnjaa
open Go.RowKit Go.Proofs

set_option maxRecDepth 100000 in
theorem rtwice_no {w : World} {g : Nat} {v : Value} {rs : List RecP} (h : NetAt 45 w g v rs) {k : Int} (hk : inNB k rs.length = false) :
    Calls Try.prog 20 #[.pointer (some ⟨g, 0, none⟩), .int .i64 k] w fun e w' => e = .returned (.bool false) ∧ Below w.heap.size w w' := by
  have HP := Lib.hid (rpeek_no h hk)
  have hz := zero_cells Try.infoPkz
  clear h hk
  unfold zeroPk at HP
  go_enter Try.func20, Try.ntmps20
  go_wp2_with fail
  refine (HP.out).mono ?_
  rintro e w1 ⟨rfl, hb1⟩
  have HB := Lib.hid (below_more hb1 (.cells #[.int .i64 0, .int .i64 0, .slice none 0 0] 52))
  clear hb1
  dsimp only
  go_wp2_with (first | (refine wpList_alloc_z rfl 52 rfl #[.int .i64 0, .int .i64 0, .slice none 0 0] hz ?_) | fail)
  go_ret
  exact ⟨rfl, HB.out⟩

/-- A literal of one packet that the net has. -/
theorem pks_own {T : TypeId} {w w3 : World} {g b : Nat} {v : Value} {rs : List RecP} {p : PkM} {u : Value} {e2 : TypeId} {f2 : Nat × Nat} (hT : T ≠ 5) (h : NetAt T w g v rs) (ho : BytP w ⟨p, u⟩) (hb : Below w.heap.size w w3) (hB : w.heap.size ≤ b)
    (hblk : w3.heap[b]? = some (.cells #[.int .i64 p.f, .int .i64 p.t, u] e2 f2)) : ∀ w', Kept (Foot g v) w3 w' → PksIn w' (.slice (some ⟨b, 0, none⟩) 1 1) [p] := fun w' hk => by
  have h3 := netAt_below h hb
  have ho3 := own_below ho.1 hb
  have hb3 : b < w3.heap.size := by
    rcases Nat.lt_or_ge b w3.heap.size with hg | hg
    · exact hg
    · rw [Array.getElem?_eq_none hg] at hblk; cases hblk
  have hbf : ¬ Foot g v b := fun hf => by have := netAt_lt h hf; omega
  refine ⟨_, 1, rfl, .inr ⟨b, 0, rfl, fun j q hj => ?_⟩⟩
  match j, hj with
  | 0, hj =>
    simp at hj
    subst hj
    refine ⟨u, fun i y hi => ?_, own_sl (own_keep ho3 hk (fun _ hkk => bytP_off h3 hT ho3 hkk)), ho.2⟩
    rw [cell_of_row _ _ _ _ e2 f2 ((hk.blk b hb3 hbf).trans hblk)]
    match i, hi with
    | 0, hi => simpa using hi
    | 1, hi => simpa using hi
    | 2, hi => simpa using hi
    | i + 3, hi => simp at hi
  | j + 1, hj => simp at hj

set_option maxRecDepth 100000 in
set_option maxHeartbeats 1000000 in
theorem rtwice_yes {w : World} {g : Nat} {v : Value} {rs : List RecP} (h : NetAt 45 w g v rs) {k : Nat} {r : RecP} (hk : rs[k]? = some r) (hrs : rs.length ≤ 64) :
    Calls Try.prog 20 #[.pointer (some ⟨g, 0, none⟩), .int .i64 k] w fun e w' => e = .returned (.bool (((sendM (rs.map (·.p)) [r.p]).1 : Int) == 1)) ∧ SentV 45 w w' g v rs [r.p] := by
  have HP := Lib.hid (rpeek_yes h hk)
  have HBP := Lib.hid (h.2.2 r (List.mem_of_getElem? hk))
  have H := Lib.hid h
  have HRS := Lib.hid hrs
  obtain ⟨q, hq⟩ : ∃ q, q = (sendM (rs.map (·.p)) [r.p]).1 := ⟨_, rfl⟩
  rw [← hq]
  have HQ := Lib.hid hq
  have hz := zero_cells Try.infoPkz
  obtain ⟨p, u⟩ := r
  clear h hk hrs hq
  dsimp only at HP HQ HBP ⊢
  go_enter Try.func20, Try.ntmps20
  go_wp2_with fail
  refine (HP.out).mono ?_
  rintro e w1 ⟨ua, uc, hu, rfl, hb1⟩
  obtain ⟨M, hM⟩ : ∃ M, M = p.b.length := ⟨_, rfl⟩
  rw [← hM] at hu ⊢
  have hn2 : (w1.alloc (.cells #[.int .i64 p.f, .int .i64 p.t, .slice ua M uc] 52)).heap.size = w1.heap.size + 1 := by simp
  have hb3 : Below w.heap.size w ((w1.alloc (.cells #[.int .i64 p.f, .int .i64 p.t, .slice ua M uc] 52)).alloc (.cells #[.int .i64 p.f, .int .i64 p.t, .slice ua M uc] 52)) := below_more (below_more hb1 _) _
  have hblk := heap_alloc_new (w1.alloc (.cells #[.int .i64 p.f, .int .i64 p.t, .slice ua M uc] 52)) (.cells #[.int .i64 p.f, .int .i64 p.t, .slice ua M uc] 52)
  rw [hn2] at hblk
  have hs1 : w.heap.size ≤ w1.heap.size + 1 := Nat.le_trans hb1.size (Nat.le_succ _)
  subst hu
  have hsend := rsend_any (netAt_below H.out hb3) [p] (.slice (some ⟨w1.heap.size + 1, 0, none⟩) 1 1) (pks_own (by decide) H.out HBP.out hb3 hs1 hblk) (by simp) HRS.out
  rw [← HQ.out] at hsend
  have HS := Lib.hid hsend
  have HB3 := Lib.hid hb3
  clear hn2 hb3 hblk hs1 hsend hb1 hM
  dsimp only
  go_wp2_with (first | (refine wpList_alloc_z rfl 52 rfl #[.int .i64 0, .int .i64 0, .slice none 0 0] hz ?_) | fail)
  refine (HS.out).mono ?_
  rintro e w4 ⟨rfl, rs', hV, hm, hf⟩
  have HE : Hid (SentV 45 w w4 g v rs [p]) := Lib.hid ⟨rs', netV_of HB3.out hV, hm, fun r hr => (hf r hr).imp id (fun h k hk => Nat.le_trans HB3.out.size (h k hk))⟩
  clear hV hm hf
  go_wp2_with fail
  go_ret
  exact ⟨rfl, HE.out⟩

theorem alike_any (f t : Int) (b : List UInt8) (v1 v2 : Value) (w : World) (hl : b.length ≤ 140737488351232) (h1 : SliceAt w v1 (b.map byteV)) (h2 : SliceAt w v2 (b.map byteV)) :
    Calls Try.prog 17 #[.agg #[.int .i64 f, .int .i64 t, v1], .agg #[.int .i64 f, .int .i64 t, v2]] w fun e w' => e = .returned (.bool true) ∧ Below w.heap.size w w' := by
  obtain ⟨a1, c1, rfl⟩ := SliceAt.len h1
  obtain ⟨a2, c2, rfl⟩ := SliceAt.len h2
  rw [List.length_map] at h1 h2 ⊢
  have hb2 : Below w.heap.size w ((w.alloc (.cells #[.int .i64 f, .int .i64 t, .slice a1 b.length c1] 52)).alloc (.cells #[.int .i64 f, .int .i64 t, .slice a2 b.length c2] 52)) := below_more (below_more (Below.refl _ _) _) _
  have HBY := Lib.hid (bytes_same b (.slice a1 b.length c1) (.slice a2 b.length c2) _ (by omega) (SliceAt.below h1 hb2) (SliceAt.below h2 hb2))
  have HB := Lib.hid hb2
  obtain ⟨M, hM⟩ : ∃ M, M = b.length := ⟨_, rfl⟩
  rw [← hM] at HBY HB ⊢
  clear hb2 h1 h2 hl hM
  go_enter Try.func17, Try.ntmps17
  go_wp2_with fail
  refine (HBY.out).mono ?_
  rintro e w4 ⟨rfl, hd⟩
  have HE := Lib.hid (below_draws HB.out hd)
  clear hd
  go_wp2_with fail
  go_ret
  exact ⟨rfl, HE.out⟩

end Go.Proofs.Ytneomfhlkdpnjaa
